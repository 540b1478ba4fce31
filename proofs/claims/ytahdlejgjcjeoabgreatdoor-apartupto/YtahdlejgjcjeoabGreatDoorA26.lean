/- Walk of the program's tear. -/
import Derived.Test.YtahdlejgjcjeoabGreatDoorA25
import Derived.Test.YtahdlejgjcjeoabGreatDoorA12
import Derived.Test.YtahdlejgjcjeoabGreatDoorA05
import Derived.Test.YtahdlejgjcjeoabGreatDoorA13
import Derived.Test.YtahdlejgjcjeoabGreatDoorA11
import Derived.Test.YtahdlejgjcjeoabGreatDoorA23
import Derived.Test.YtahdlejgjcjeoabGreatDoorA22
namespace Go.Proofs.YtahdlejgjcjeoabGreatDoor
set_option maxHeartbeats 8000000
open Go.RowKit
theorem zbQ {x y:Int}:(ci x y<0→x<y)∧(ci x y=0→x=y)∧(0<ci x y→y<x):=by
 simp only [ci,sgn]
 split
 ·omega
 ·split <;> omega
theorem gcmp_n {g h:Gr}:(gcmp g h<0→g.n≤h.n)∧(0≤gcmp g h→h.n≤g.n):=by
 have:=zbQ (x:=g.n) (y:=h.n)
 unfold gcmp
 constructor
 ·intro k
  split at k
  ·have:=this.1 k;omega
  ·rename_i hz
   have:ci g.n h.n=0:=by omega
   have:=(zbQ (x:=g.n) (y:=h.n)).2.1 this
   omega
 ·intro k
  split at k
  ·by_cases e:ci g.n h.n=0
   ·have:=(zbQ (x:=g.n) (y:=h.n)).2.1 e;omega
   ·have:=(zbQ (x:=g.n) (y:=h.n)).2.2 (by omega);omega
  ·have:ci g.n h.n=0:=by omega
   have:=(zbQ (x:=g.n) (y:=h.n)).2.1 this
   omega
theorem zeB (l:List At)(x a:At):hadN (l ++ [x]) a=if plc x a=0∧hadN l a<x.n then x.n else hadN l a:=by unfold hadN;rw [List.foldl_append];rfl
theorem got_go (a:At):∀ (k:Nat) (l:List At),l.length=k→(∀ x∈l,0≤x.n)→(got (addTo (fun _=>none) l) (slot a)).n=hadN l a:=by
 intro k
 induction k with
 | zero=>intro l hk _;rw [List.length_eq_zero_iff.1 hk];rfl
 | succ k ihk =>
  intro l' hk hl
  obtain ⟨l,x,rfl⟩:∃ l x,l' = l ++ [x]:=⟨l'.dropLast,l'.getLast (by intro e;rw [e] at hk;simp at hk),(List.dropLast_concat_getLast _).symm⟩
  have ih:=ihk l (by simpa using hk) (fun y hy=>hl y (by simp [hy]))
  have hx:=hl x (by simp)
  rw [zal,zeB]
  show (got (addA (addTo (fun _=>none) l) x) (slot a)).n=_
  generalize addTo (fun _=>none) l=M at *
  unfold addA upd got at *
  dsimp only
  by_cases he:plc x a=0
  ·have hs:=ziz he
   rw [if_pos ((zk4 _ _).2 hs.symm),Option.getD_some]
   rw [← hs] at ih
   cases hM:M (slot x) with
   | none =>
    rw [hM] at ih
    simp only [Option.getD_none] at ih
    rw [← ih,zee]
    split <;> omega
   | some g =>
    rw [hM] at ih
    simp only [Option.getD_some] at ih
    rw [← ih]
    dsimp only
    have hg:=gcmp_n (g:=g) (h:=grade x)
    rw [zee] at hg
    split
    ·rename_i h1
     have:=hg.1 h1
     rw [zee]
     split <;> omega
    ·rename_i h1
     have:=hg.2 (by omega)
     split <;> omega
  ·have hne:¬ scmp (slot a) (slot x)=0:=fun h=>he (by rw [zix,zk4];exact ((zk4 _ _).1 h).symm)
   rw [if_neg hne,if_neg (fun h=>he h.1)]
   exact ih
theorem zeb (l:List At)(a:At)(hl:∀ x∈l,0≤x.n):(got (addTo (fun _=>none) l) (slot a)).n=hadN l a:=got_go a l.length l rfl hl
theorem zeA (l:List At){a b:At}(h:∀ x,plc x a=plc x b):hadN l a=hadN l b:=by
 unfold hadN
 congr 1
 funext n x
 rw [h x]
theorem ziy (x:At)(ty:Int)(key:ByteArray)(side who:Int)(elem:ByteArray)(n m:Int):plc x ⟨ty,key,side,who,elem,n⟩=plc x ⟨ty,key,side,who,elem,m⟩:=by
 rw [zix,zix]
 rfl
theorem zeC {l:List At}{a:At}(h:∀ x∈l,plc x a=0→x.n=0):hadN l a=0:=by
 have:∀ (l:List At),(∀ x∈l,plc x a=0→x.n=0)→l.foldl (fun n x=>if plc x a=0∧n<x.n then x.n else n) 0=0:=by
  intro l
  induction l with
  | nil=>intro _;rfl
  | cons x l ih =>
   intro h
   rw [List.foldl_cons,if_neg (fun k=>by have:=h x (by simp) k.1;omega)]
   exact ih fun y hy=>h y (by simp [hy])
 exact this l h
theorem n_zero {x:At}(h:mayB x=true)(ht:x.ty=3∨x.ty=4):x.n=0:=by
 simp only [mayB,decide_eq_true_eq] at h
 omega
theorem zbP {l:List At}{r:Nat}{o:OpV}(hl:∀ x∈l,mayB x=true)(hf:fineOp o=true):{ movedAt r o with n:=chgN (addTo (fun _=>none) l) r o }=opAtom l r o:=by
 have h0:∀ x∈l,0≤x.n:=fun x hx=>by have:=hl x hx;simp only [mayB,decide_eq_true_eq] at this;omega
 unfold chgN
 rw [zeb l _ h0]
 obtain ⟨ty,key,side,elem,n⟩:=o
 simp only [fineOp,decide_eq_true_eq] at hf
 unfold movedAt opAtom
 dsimp only
 by_cases h1:ty=1
 ·subst h1
  rw [if_pos rfl,if_pos rfl]
  have hs:side=0:=by omega
  subst hs
  rw [zeA l (fun x=>ziy x 1 key 0 r elem n 0),Int.add_comm]
 ·rw [if_neg h1,if_neg h1]
  by_cases h2:ty=2
  ·subst h2
   rw [if_pos rfl,if_pos rfl]
   have hs:side=0:=by omega
   subst hs
   by_cases hn:n<0
   ·rw [if_pos hn,if_pos hn]
    have hm:max n (-n) = -n:=by omega
    dsimp only
    rw [hm,zeA l (fun x=>ziy x 2 key 1 r elem (-n) 0),Int.add_comm]
   ·rw [if_neg hn,if_neg hn]
    have hm:max n (-n)=n:=by omega
    dsimp only
    rw [hm,zeA l (fun x=>ziy x 2 key 0 r elem n 0),Int.add_comm]
  ·rw [if_neg h2,if_neg h2]
   by_cases h5:ty=5
   ·subst h5
    rw [if_pos rfl,if_pos rfl]
    dsimp only
    rw [zeA l (fun x=>ziy x 5 key side r elem 1 0),Int.add_comm]
   ·rw [if_neg h5,if_neg h5]
    dsimp only
    rw [zeC (fun x hx hp=>n_zero (hl x hx) (by have:=ziF hp;simp only at this;omega))]
    rfl
theorem zbO {l:List At}{r:Nat}{o:OpV}(hl:∀ x∈l,mayB x=true):chgErr (addTo (fun _=>none) l) r o=if fineOp o=false then 6 else if 2147483647<(opAtom l r o).n then 2 else 0:=by
 unfold chgErr
 cases hf:fineOp o
 ·rfl
 ·have e:(opAtom l r o).n=chgN (addTo (fun _=>none) l) r o:=by rw [← zbP hl hf]
  rw [e]
theorem zbM {l:List At}{r:Nat}{o:OpV}(hl:∀ x∈l,mayB x=true)(h:chgErr (addTo (fun _=>none) l) r o=0):chgAt (addTo (fun _=>none) l) r o=opAtom l r o:=by
 unfold chgAt
 rw [if_pos h]
 refine zbP hl ?_
 cases hf:fineOp o
 ·simp [chgErr,hf] at h
 ·rfl
theorem zea {l:List At}(hl:∀ x∈l,mayB x=true)(s:Sl):0≤(got (addTo (fun _=>none) l) s).n∧(got (addTo (fun _=>none) l) s).n≤2147483647:=by
 unfold got
 cases h:addTo (fun _=>none) l s with
 | none=>simp
 | some g =>
  obtain ⟨a,ha,_,h2⟩:=(zeV l).only s g h
  have:=hl a ha
  simp only [mayB,decide_eq_true_eq] at this
  rw [Option.getD_some,← h2,zee]
  omega
theorem zhy {c:Clu}{r:Int}{o:OpV}:(c.works r=5∧c.opErr r o=5∧¬ (0≤r∧r<c.reps.length))∨(∃ i:Nat,r=i∧i<c.reps.length∧((c.works r=8∧c.opErr r o=8∧(c.rep i).down=true)∨(c.works r=0∧(c.rep i).down=false∧c.opErr r o=if fineOp o=false then 6 else if 2147483647<(opAtom (c.rep i).atoms i o).n then 2 else 0))):=by
 rcases znx c r with ⟨hw,hr⟩ | ⟨i,rfl,hi,⟨hw,hd⟩ | ⟨hw,hd⟩⟩
 ·exact .inl ⟨hw,by simp [Clu.opErr,hw],hr⟩
 ·exact .inr ⟨i,rfl,hi,.inl ⟨hw,by simp [Clu.opErr,hw],hd⟩⟩
 ·exact .inr ⟨i,rfl,hi,.inr ⟨hw,hd,by unfold Clu.opErr;rw [if_neg (by simp [hw])];rfl⟩⟩
theorem al6o {w w' : World}{z0 z1 z2 z3 z4 z5:Value}{A:Obj}{e:TypeId}(hb:Below ((w.alloc A).alloc (.cells #[z0,z1,z2,z3,z4,z5] e)).drew.heap.size ((w.alloc A).alloc (.cells #[z0,z1,z2,z3,z4,z5] e)).drew w') :
  w'.cell? ⟨w.heap.size+1,0,none⟩=some z0∧w'.cell? ⟨w.heap.size+1,1,none⟩=some z1∧w'.cell? ⟨w.heap.size+1,2,none⟩=some z2∧w'.cell? ⟨w.heap.size+1,3,none⟩=some z3∧w'.cell? ⟨w.heap.size+1,4,none⟩=some z4∧w'.cell? ⟨w.heap.size+1,5,none⟩=some z5∧∀ k,w'.frozen? ⟨w.heap.size+1,k,none⟩=false:=by
 have:=al6 (w:=w.alloc A) (w' := w') (z0:=z0) (z1:=z1) (z2:=z2) (z3:=z3) (z4:=z4) (z5:=z5) (e:=e) ⟨hb.os,hb.tape,hb.output,hb.size,hb.block⟩
 simpa using this
theorem chA {w W w2:World}{z0 z1 z2 z3 z4 z5:Value}{e:TypeId}(h1:Below w.heap.size w W)(h2:Below W.heap.size W w2):Below w.heap.size w (w2.alloc (.cells #[z0,z1,z2,z3,z4,z5] e))∧(w2.alloc (.cells #[z0,z1,z2,z3,z4,z5] e)).heap[w2.heap.size]? = some (.cells #[z0,z1,z2,z3,z4,z5] e (0,0)) :=
 ⟨zaO (h1.trans (h2.mono h1.size)) _,heap_alloc_new w2 _⟩
theorem chB {w w2:World}{y0 y1 y2 y3 y4 y5 z0 z1 z2 z3 z4 z5:Value}{A:Obj}{e:TypeId}(hb:Below ((w.alloc A).alloc (.cells #[y0,y1,y2,y3,y4,y5] e)).drew.heap.size ((w.alloc A).alloc (.cells #[y0,y1,y2,y3,y4,y5] e)).drew w2) :
  Below w.heap.size w ((((((w2.setCell ⟨w.heap.size+1,0,none⟩ z0).setCell ⟨w.heap.size+1,1,none⟩ z1).setCell ⟨w.heap.size+1,2,none⟩ z2).setCell ⟨w.heap.size+1,3,none⟩ z3).setCell ⟨w.heap.size+1,4,none⟩ z4).setCell ⟨w.heap.size+1,5,none⟩ z5)∧((((((w2.setCell ⟨w.heap.size+1,0,none⟩ z0).setCell ⟨w.heap.size+1,1,none⟩ z1).setCell ⟨w.heap.size+1,2,none⟩ z2).setCell ⟨w.heap.size+1,3,none⟩ z3).setCell ⟨w.heap.size+1,4,none⟩ z4).setCell ⟨w.heap.size+1,5,none⟩ z5).heap[w.heap.size+1]? = some (.cells #[z0,z1,z2,z3,z4,z5] e (0,0)):=by
 have hd:((w.alloc A).alloc (.cells #[y0,y1,y2,y3,y4,y5] e)).drew.heap.size=w.heap.size+2:=by simp [World.drew]
 have h0:Below w.heap.size w w2:=(zaO (zaO (Below.refl _ w) A) (.cells #[y0,y1,y2,y3,y4,y5] e)).drew.trans (hb.mono (by omega))
 have h1:w2.heap[w.heap.size+1]? = some (.cells #[y0,y1,y2,y3,y4,y5] e (0,0)):=by
  rw [hb.block _ (by omega)]
  have:=heap_alloc_new (w.alloc A) (.cells #[y0,y1,y2,y3,y4,y5] e)
  rw [World.size_alloc] at this
  exact this
 exact ⟨zll h0 (by omega),zlm h1⟩
set_option maxRecDepth 100000 in
theorem zbL {w:World}{col:Col}{o x N:Nat}{U:List At}{K:PrK}{c:Clu}(h:PrAt w col o x K)(hT:Tab w col)(hlen:K.Ds.length=c.reps.length)(hD:∀ i (h:i<K.Ds.length),(K.Ds[i]).is (c.rep i))(hok:c.ok U N)(r:Int)(op:OpV)(hop:op.short) :
  Calls Tryz.prog 61 #[.pointer (some ⟨x,0,none⟩),.int .i64 r,op.val] w fun e w' => Below w.heap.size w w' ∧ Hid ((c.opErr r op ≠ 0∧e = .returned (.tuple #[.pointer none,.slice none 0 0,.int .i64 (c.opErr r op)]))∨(c.opErr r op=0∧∃ i b:Nat,r=i∧i<c.reps.length∧w.heap.size≤b∧e = .returned (.tuple #[.pointer (some ⟨K.R,i*14,none⟩),.slice (some ⟨b,0,none⟩) 1 1,.int .i64 0])∧w'.heap[b]? = some (.cells (enc (opAtom (c.rep i).atoms i op)).toArray 76 (0,0)))):=by
 obtain ⟨_,_,_,_,c41,_,_⟩:=h.cl
 have hb0:∀ ob,Below w.heap.size w (w.alloc ob):=fun ob=>zaO (Below.refl _ _) ob
 have k41:=fun ob=>((hb0 ob).cell (p:=⟨x,41,none⟩) (zaY h.blk)).trans c41
 rcases zhy (c:=c) (r:=r) (o:=op) with ⟨hw,he,hr⟩ | ⟨i,rfl,hi,⟨hw,he,hd⟩ | ⟨hw,hd,he⟩⟩
 ·rw [he]
  obtain ⟨ty,key,side,elem,n⟩:=op
  unfold OpV.val
  dsimp only
  go_enter Tryz.func61,Tryz.ntmps61
  go_wp2_with fail
  refine (zna x r _ _ _ _ (k41 _) (by rw [hlen];exact hr)).mono ?_
  rintro e w1 ⟨rfl,rfl⟩
  go_wp2
  refine bodyPost_ret (v := .tuple #[.pointer none,.slice none 0 0,.int .i64 5]) (by simp [results,Tryz.results61,go_sem]) rfl ⟨hb0 _,.inl ⟨by decide,rfl⟩⟩
 ·have hi' : i<K.Ds.length:=by rw [hlen];exact hi
  have kup:=fun ob=>((hb0 ob).cell (p:=⟨K.R,i*14,none⟩) (zaY h.row)).trans (h.cells hi').c0
  rw [(hD i hi').up,hd] at kup
  rw [he]
  obtain ⟨ty,key,side,elem,n⟩:=op
  unfold OpV.val
  dsimp only
  go_enter Tryz.func61,Tryz.ntmps61
  go_wp2_with fail
  refine (znb x K.R i K.Ds.length K.Ds.length false _ (k41 _) hi' (kup _)).mono ?_
  rintro e w1 ⟨rfl,rfl⟩
  go_wp2
  refine bodyPost_ret (v := .tuple #[.pointer none,.slice none 0 0,.int .i64 8]) (by simp [results,Tryz.results61,go_sem]) rfl ⟨hb0 _,.inl ⟨by decide,rfl⟩⟩
 ·have hi' : i<K.Ds.length:=by rw [hlen];exact hi
  have hi6:i<6:=Nat.lt_of_lt_of_le hi hok.n6
  have kup:=fun ob=>((hb0 ob).cell (p:=⟨K.R,i*14,none⟩) (zaY h.row)).trans (h.cells hi').c0
  rw [(hD i hi').up,hd] at kup
  have c3:=fun ob=>((hb0 ob).cell (p:=⟨K.R,i*14+3,none⟩) (zaY h.row)).trans (h.cells hi').c3
  have hmay:∀ a∈(c.rep i).atoms,mayB a=true:=fun a ha=>hok.may a ((hok.rep hi).sub a ha)
  have hst:=(h.reps i hi' (by simp)).st
  rw [(hD i hi').M] at hst
  have HCH:Hid (∀ W,Below w.heap.size w W→Calls Tryz.prog 108 #[.map (some (K.Ds[i]).b),.int .i64 i,op.val] W fun e w' => e = .returned (.tuple #[(chgAt (addTo (fun _=>none) (c.rep i).atoms) i op).val,.int .i64 (c.opErr i op)])∧Below W.heap.size W w'):=by
   intro W hW
   have:=zbK (K.Ds[i]).b (K.Ds[i]).n _ i op W (hT.below hW).rules (hT.below hW).steps (hst.below hW) hop hi6 (fun s=>zea hmay s)
   rw [zbO hmay,← he] at this
   exact this
  have HAT:Hid (c.opErr i op=0→chgAt (addTo (fun _=>none) (c.rep i).atoms) i op=opAtom (c.rep i).atoms i op):=fun h0=>zbM hmay (by rw [zbO hmay,← he];exact h0)
  have hltR:=zaY h.row
  have c3' := (h.cells hi').c3
  generalize hat:chgAt (addTo (fun _=>none) (c.rep i).atoms) i op=at1 at *
  have HAT2:Hid (c.opErr i op=0→at1=opAtom (c.rep i).atoms i op):=HAT.out
  clear hat HAT hst hmay he hd hw h hT hD
  generalize c.opErr i op=er at *
  obtain ⟨ty,key,side,elem,n⟩:=op
  unfold OpV.val At.val at *
  dsimp only at *
  go_enter Tryz.func61,Tryz.ntmps61
  go_wp2_with fail
  refine (znb x K.R i K.Ds.length K.Ds.length true _ (k41 _) hi' (kup _)).mono ?_
  rintro e w1 ⟨rfl,rfl⟩
  have e3:=fun ob ob2=>((zaO (hb0 ob) ob2).cell (p:=⟨K.R,i*14+3,none⟩) hltR).trans (c3' )
  have hw1:Below w.heap.size w (w.alloc (.cells #[.int .i64 ty,.string key,.int .i64 side,.string elem,.int .i64 n] 31)).drew:=(hb0 _).drew
  have hw2:Below w.heap.size w ((w.alloc (.cells #[.int .i64 ty,.string key,.int .i64 side,.string elem,.int .i64 n] 31)).alloc (.cells #[.int .i64 0,.string ⟨#[]⟩,.int .i64 0,.int .i64 0,.string ⟨#[]⟩,.int .i64 0] 76)).drew:=(zaO (hb0 _) _).drew
  go_wp2_with fail
  go_cut [10,11] from 12 (fun s10 s11 wc=>∃ ba:Nat,s10 = .int .i64 er∧s11 = .pointer (some ⟨ba,0,none⟩)∧Hid (Below w.heap.size w wc∧wc.heap[ba]? = some (.cells #[.int .i64 at1.ty,.string at1.key,.int .i64 at1.side,.int .i64 at1.who,.string at1.elem,.int .i64 at1.n] 76 (0,0))))
  case first =>
   go_region_law (first | (go_simp;go_at_call 108; (first | refine (HCH.out _ hw1).mono ?_ | refine (HCH.out _ hw2).mono ?_);rintro e w2 ⟨rfl,hb2⟩; (first | (with_reducible refine cps (al6o hb2) ?_;rintro ⟨e0,e1,e2,e3,e4,e5,ef⟩) | skip)) | fail)
   all_goals go_wp2
   all_goals go_meet
   all_goals (case rel=>first | with_reducible exact ⟨_,rfl,rfl,zeT (chA hw1 hb2)⟩ | with_reducible exact ⟨_,rfl,rfl,zeT (chB hb2)⟩ | with_reducible exact ⟨_,rfl,rfl,zeT (chA hw2 hb2)⟩)
  case rest =>
   obtain ⟨ba,rfl,rfl,hq⟩:=hcut
   have HB3:Hid (Below w.heap.size w wc):=hq.out.1
   obtain ⟨a0,a1,a2,a3,a4,a5⟩:=zlv hq.out.2
   clear hq HCH hw1 hw2 e3 c3 c3'
   generalize wc=w3 at *
   by_cases h0:er=0
   ·subst h0
    have HX2:=zeT (HAT2.out rfl)
    clear HAT2
    go_wp2
    go_region
    all_goals go_wp2
    all_goals refine bodyPost_ret (v := .tuple #[.pointer (some ⟨K.R,i*14,none⟩),.slice (some ⟨w3.heap.size,0,none⟩) 1 1,.int .i64 0]) (by simp [results,Tryz.results61,go_sem]) rfl ⟨(zaO HB3.out _).drew,?_⟩
    all_goals exact ⟨i,rfl,hi,w3.heap.size,HB3.out.size,rfl,by rw [← HX2.out];exact heap_alloc_new w3 _⟩
   ·go_wp2
    refine bodyPost_ret (v := .tuple #[.pointer none,.slice none 0 0,.int .i64 er]) (by simp [results,Tryz.results61,go_sem]) rfl ⟨HB3.out,.inl ⟨h0,rfl⟩⟩
open Go.RowKit Go.MuLone
theorem PrI.unlock {w:World}{col:Col}{o x i:Nat}{K:PrK}{D:PrD}(h:PrI w col o x i { K with lk:=1 } D)(h0:K.lk=0):w.cell? ⟨x,0,none⟩=some (.int .i32 1)∧w.frozen? ⟨x,0,none⟩=false∧PrI (w.setCell ⟨x,0,none⟩ (.int .i32 0)) col o x i K D∧FrC (ofOwn o) col col w (w.setCell ⟨x,0,none⟩ (.int .i32 0)):=by
 obtain ⟨u0,u1,u2,u3⟩:=PrB.unlock (K:=K.setD i D) h.b h0
 exact ⟨u0,u1,⟨u2,h.p.kept u3 (neκ (by omega)) (neκ (by omega)) (neκ (by omega)) (neκ (by omega)),h.h6,h.hi⟩,u3.mono zhh⟩
theorem zeO {w w' : World}{col:Col}{κ:Nat × Nat}{b:Nat}{a:At}{e:TypeId}(hb:w.heap.size≤b)(h:w'.heap[b]? = some (.cells (enc a).toArray e (0,0))):Held w' (paint col w.heap.size κ) κ (.slice (some ⟨b,0,none⟩) 1 1) [a] :=
 ⟨_,1,rfl,Nat.le_refl _,fun _=>⟨b,0,rfl,zaY h,zim col κ hb,zkP h (by simp [flat,enc])⟩⟩
set_option maxRecDepth 100000 in
theorem zju {w:World}{col:Col}{o x N:Nat}{U:List At}{K:PrK}{c:Clu}(h:PrgAt w col o x K c)(ho:o ≠ 0)(hT:Tab w col)(hok:c.ok U N)(hL:Lim U N)(r:Int)(op:OpV)(hop:op.short) :
  Calls Tryz.prog 22 #[.pointer (some ⟨x,0,none⟩),.int .i64 r,op.val] w fun e w' => e = .returned (.int .i64 (c.opErr r op))∧∃ K' col',Hid (PrgAt w' col' o x K' (c.update r op))∧Hid (FrC (ofOwn o) col col' w w'):=by
 have hb0:∀ ob,Below w.heap.size w (w.alloc ob):=fun ob=>zaO (Below.refl _ _) ob
 have hx:=zaY h.at_.blk
 have HCL:Hid (∀ ob,ClAt (w.alloc ob) x K.R K.Ds.length K.Ds.length):=fun ob=>(h.same (hb0 ob)).at_.clAt h.is.lk
 have HLK:Hid (∀ ob,PrAt ((w.setCell ⟨x,0,none⟩ (.int .i32 1)).alloc ob) col o x { K with lk:=1 }∧FrC (ofOwn o) col col w ((w.setCell ⟨x,0,none⟩ (.int .i32 1)).alloc ob)∧Tab ((w.setCell ⟨x,0,none⟩ (.int .i32 1)).alloc ob) col):=fun ob=>by
  obtain ⟨h1,h2⟩:=h.at_.lock 1
  have hb1:=zaO (Below.refl _ (w.setCell ⟨x,0,none⟩ (.int .i32 1))) ob
  have h3:FrC (ofOwn o) col col w ((w.setCell ⟨x,0,none⟩ (.int .i32 1)).alloc ob):=(h2.mono zhh).trans (zdJ hb1)
  exact ⟨h1.same hb1,h3,hT.kept h3 (fun e=>ho e.symm)⟩
 have HCH:Hid (∀ ob,Calls Tryz.prog 61 #[.pointer (some ⟨x,0,none⟩),.int .i64 r,op.val] ((w.setCell ⟨x,0,none⟩ (.int .i32 1)).alloc ob) fun e w' => Below ((w.setCell ⟨x,0,none⟩ (.int .i32 1)).alloc ob).heap.size ((w.setCell ⟨x,0,none⟩ (.int .i32 1)).alloc ob) w' ∧ Hid ((c.opErr r op ≠ 0∧e = .returned (.tuple #[.pointer none,.slice none 0 0,.int .i64 (c.opErr r op)]))∨(c.opErr r op=0∧∃ i b:Nat,r=i∧i<c.reps.length∧((w.setCell ⟨x,0,none⟩ (.int .i32 1)).alloc ob).heap.size≤b∧e = .returned (.tuple #[.pointer (some ⟨K.R,i*14,none⟩),.slice (some ⟨b,0,none⟩) 1 1,.int .i64 0])∧w'.heap[b]? = some (.cells (enc (opAtom (c.rep i).atoms i op)).toArray 76 (0,0))))):=fun ob =>
  zbL (K:={ K with lk:=1 }) (HLK.out ob).1 (HLK.out ob).2.2 h.is.len h.is.reps hok r op hop
 by_cases he:c.opErr r op=0
 ·obtain ⟨hw,hf,hn⟩:=zhz he
  have HUP:Hid (∀ i:Nat,r=i→i<c.reps.length→c.update r op=c.setRep i ((c.rep i).take c.room [opAtom (c.rep i).atoms i op] i)):=by
   intro i hi _
   subst hi
   unfold Clu.update
   rw [if_pos he]
   rfl
  have HTK:Hid (∀ (ob:Obj) (w2:World) (i b:Nat),r=i→i<c.reps.length→Below ((w.setCell ⟨x,0,none⟩ (.int .i32 1)).alloc ob).heap.size ((w.setCell ⟨x,0,none⟩ (.int .i32 1)).alloc ob) w2→((w.setCell ⟨x,0,none⟩ (.int .i32 1)).alloc ob).heap.size≤b→w2.heap[b]? = some (.cells (enc (opAtom (c.rep i).atoms i op)).toArray 76 (0,0)) →
    w2.cell? ⟨x,4,none⟩=some (.int .i64 c.room)∧Calls Tryz.prog 62 #[.pointer (some ⟨K.R,i*14,none⟩),.slice (some ⟨b,0,none⟩) 1 1,.int .i64 i,.int .i64 c.room] w2 fun e w' => e = .returned (.tuple #[])∧Hid (w'.cell? ⟨x,0,none⟩=some (.int .i32 1)∧w'.frozen? ⟨x,0,none⟩=false∧∃ K' col',PrgAt (w'.setCell ⟨x,0,none⟩ (.int .i32 0)) col' o x K' (c.update r op)∧FrC (ofOwn o) col col' w (w'.setCell ⟨x,0,none⟩ (.int .i32 0)))):=by
   intro ob w2 i b hri hi hb2 hbb hcell
   obtain ⟨k1,k2,k3⟩:=HLK.out ob
   have hi6:=Nat.lt_of_lt_of_le hi hok.n6
   have hi' : i<({ K with lk:=1 }:PrK).Ds.length:=by show i<K.Ds.length;rw [h.is.len];exact hi
   have p2:=k1.below hb2 (o,1)
   have f2:FrC (ofOwn o) col (paint col ((w.setCell ⟨x,0,none⟩ (.int .i32 1)).alloc ob).heap.size (o,1)) w w2:=k2.trans (zdH hb2 (o,1))
   have t2:=hT.kept f2 (fun e=>ho e.symm)
   have hh:=zeO (col:=col) (κ:=(o,1)) hbb hcell
   have hI:=PrAt.inside p2 (by show K.Ds.length≤6;rw [h.is.len];exact hok.n6) hi'
   have hDi:=h.is.reps i hi'
   have hrep:=hok.rep hi
   have hmay:∀ a ∈ [opAtom (c.rep i).atoms i op],mayB a=true:=fun a ha=>by
    rw [List.mem_singleton] at ha
    subst ha hri
    exact zhx hi6 hf hn
   have c4:w2.cell? ⟨x,4,none⟩=some (.int .i64 K.room):=p2.cl.2.2.2.1
   rw [h.is.room] at c4
   have hes:(K.Ds[i]).es.length≤1024:=by
    have:=hrep.bufL
    rw [← hDi.buf,List.length_map] at this
    have:=hok.room8
    omega
   refine ⟨c4,(zjq hI ho t2 _ [opAtom (c.rep i).atoms i op] hh hmay (by simp) i c.room (by show (K.Ds[i]).num≤_;rw [hDi.num];have:=hrep.num;have:=hL.1;omega) (by show (K.Ds[i]).bytes.length≤_;rw [hDi.bytes];have:=zgc hrep hL;omega) hes (by have:=h.n i hi';show (K.Ds[i]).n≤_;omega)).mono ?_⟩
   rintro e w3 ⟨rfl,col3,vb,vl,hI3,hF3⟩
   refine ⟨rfl,?_⟩
   obtain ⟨u0,u1,u2,u3⟩:=PrI.unlock hI3.out h.is.lk
   have hdn:(c.rep i).down=false:=by
    have:=(znz hw).2
    subst hri
    simpa using this
   have hto:(c.rep i).torn = []:=by
    rcases hrep.torn with e | ⟨e,_⟩
    ·exact e
    ·rw [hdn] at e;cases e
   have hD3:=hDi.take hrep hok.room1 hto (.slice (some ⟨b,0,none⟩) 1 1) [opAtom (c.rep i).atoms i op] i vb vl
   obtain ⟨K',hK',_⟩:=u2.done (V:=U ++ [opAtom (c.rep i).atoms i op]) h.is h.n hD3 (fun a ha=>by
    have:a∈(c.rep i).atoms ++ [opAtom (c.rep i).atoms i op]:=by
     rw [hrep.take_eq _ _ hok.room1] at ha
     split at ha <;> exact ha
    rw [List.mem_append] at this ⊢
    rcases this with h1 | h1
    ·exact .inl (hrep.sub a h1)
    ·exact .inr h1) (by have:=hL.2;simp;omega)
   rw [← HUP.out i hri hi] at hK'
   exact ⟨u0,u1,K',col3,hK',(f2.trans (hF3.out.mono zhi)).trans u3⟩
  rw [he] at HCH ⊢
  clear h hT hok hL hw hf hn he
  obtain ⟨ty,key,side,elem,n⟩:=op
  unfold OpV.val at *
  dsimp only at *
  go_enter_defers Tryz.func22,Tryz.ntmps22
  go_wp2_with (go_at_call 44;refine (lock_free zgD ⟨x,0,none⟩ _ (HCL.out _).c0 (HCL.out _).f0).mono ?_;rintro e w' ⟨rfl,rfl⟩)
  refine (HCH.out _).mono ?_
  rintro e w2 ⟨hb2,hcase⟩
  obtain ⟨h1,_⟩ | ⟨_,i,b,rfl,hi,hbb,rfl,hcell⟩:=hcase
  ·exact absurd rfl h1
  obtain ⟨c4,htk⟩:=HTK.out _ w2 i b rfl hi hb2 hbb hcell
  clear HTK HCH HUP HLK
  go_wp2_with fail
  refine htk.mono ?_
  rintro e w3 ⟨rfl,hq⟩
  obtain ⟨u0,u1,K',col',hK',hF'⟩:=hq.out
  have HK' := zeT hK'
  have HF' := zeT hF'
  clear htk hq hK' hF' hb2 hbb hcell
  go_wp2
  refine leaves_cons (f:=45) (args:=#[.pointer (some ⟨x,0,none⟩)]) (by simp) (by simp [go_sem]) ?_
  refine (unlock_deferred zgD ⟨x,0,none⟩ .returning _ u0 u1).mono ?_
  rintro e u' w'' ⟨rfl,rfl,rfl⟩
  exact ⟨_,results_tmp rfl _ _ _,rfl,K',col',HK',HF'⟩
 ·have hup:c.update r op=c:=by unfold Clu.update;rw [if_neg he]
  have hcl:=h.at_.clAt h.is.lk
  have HK:=zeT h
  rw [hup]
  clear h hT hok hL hup HLK
  generalize c.opErr r op=er at *
  obtain ⟨ty,key,side,elem,n⟩:=op
  unfold OpV.val at *
  dsimp only at *
  go_enter_defers Tryz.func22,Tryz.ntmps22
  go_wp2_with (go_at_call 44;refine (lock_free zgD ⟨x,0,none⟩ _ (HCL.out _).c0 (HCL.out _).f0).mono ?_;rintro e w' ⟨rfl,rfl⟩)
  refine (HCH.out _).mono ?_
  rintro e w2 ⟨hb2,hcase⟩
  obtain ⟨_,rfl⟩ | ⟨h1,_⟩:=hcase
  rotate_left
  ·exact absurd h1 he
  have hb3:Below w.heap.size (w.setCell ⟨x,0,none⟩ (.int .i32 1)) w2:=by
   have:=(zaO (Below.refl _ (w.setCell ⟨x,0,none⟩ (.int .i32 1))) (.cells #[.int .i64 ty,.string key,.int .i64 side,.string elem,.int .i64 n] 31)).trans (hb2.mono (by simp))
   rwa [zgb] at this
  obtain ⟨u0,u1,u2⟩:=hcl.unlock hb3
  clear hb2 HCH
  go_wp2
  refine leaves_cons (f:=45) (args:=#[.pointer (some ⟨x,0,none⟩)]) (by simp) (by simp [go_sem]) ?_
  refine (unlock_deferred zgD ⟨x,0,none⟩ .returning _ u0 u1).mono ?_
  rintro e u' w'' ⟨rfl,rfl,rfl⟩
  exact ⟨_,results_tmp rfl _ _ _,rfl,K,col,HK.out.same u2,zdJ u2⟩
theorem zlZ {ops:Array Oper}{o:Oper}{a:Act}{w:World}{K:Act→World→Prop}{Q:Exit→Act→World→Prop}{E:Prop}(hgd:o.guard=none)(s x:Operand)(t:TypeId)
  (ho:o.op = .call { callee := .builtin .append,args:=#[s,x],argTypes:=#[t,t] }) (e:TypeId) (i:TypeInfo) (ht:Tryz.prog.underlying t=some (.slice e)) (hi:Tryz.prog.info? e=some i)
  (v:Value) (base size n:Nat) (xs:List Value) (hs:a.eval s=v) (hown:w.ownsRow base e size v n xs) (ad:Option Addr) (c:Nat) (hx:a.eval x = .slice ad 0 c) (h:K (a.put o.dst v) w) :
  if Region.wanted o (yielded ops a.tmps)=true then Oper.wp Tryz.prog o a w K Q else E:=by
 have hw:Region.wanted o (yielded ops a.tmps)=true:=by simp [Region.wanted,hgd]
 rw [if_pos hw]
 have hrun:(Builtin.append_ #[t,t] o.type #[v,.slice ad 0 c]).run Tryz.prog w = .ok v w:=by
  rcases hown.2 with ⟨rfl,rfl⟩ | ⟨g,cap,cur,rfl,_,_,hnc,_⟩
  ·cases ad <;> simp [Builtin.append_,run_underlying ht,sizeOf,typeInfo,hi,Builtin.lenOf,Builtin.firstCells,loadCells,loadCellsFrom]
  ·cases ad <;> simp [Builtin.append_,run_underlying ht,sizeOf,typeInfo,hi,Builtin.lenOf,Builtin.firstCells,hnc,storeCells,loadCells,loadCellsFrom]
 unfold Oper.wp
 simp [execOp,ho,resolve,invoke,builtin,hs,hx,hrun,Result.andThen]
 exact h
def TearMid (w:World)(col:Col)(o x i:Nat)(K:PrK)(D:PrD)(bs:List UInt8)(wc:World):Prop :=
 ∃ col1 vl,PrI wc col1 o x i K { D with vl:=vl,bytes:=D.bytes ++ bs }∧FrC (ofPrg o i) col col1 w wc
theorem zaK {bs:List UInt8}{k j:Nat}{u:Value}(h:(bcells (bs.take k))[j]? = some u):(bcells bs)[j]? = some u:=by
 have hj:j<(bcells (bs.take k)).length:=(List.getElem?_eq_some_iff.1 h).1
 rw [zaI,List.length_take] at hj
 have e:bcells (bs.take k)=(bcells bs).take k:=by simp [bcells,List.map_take]
 rw [e,List.getElem?_take_of_lt (by omega)] at h
 exact h
set_option maxRecDepth 100000 in
theorem zjr {w:World}{col:Col}{o x i:Nat}{K:PrK}{D:PrD}(h:PrI w col o x i K D)(_ho:o ≠ 0)(hT:Tab w col)(v:Value)(l:List At)(hv:Held w col (o,1) v l)(hmay:∀ a∈l,mayB a=true)(hlen:l.length≤131072)(keep:Int)(hn:D.num≤16777216)(hby:D.bytes.length≤35184372088832) :
  Calls Tryz.prog 65 #[.pointer (some ⟨K.R,i*14,none⟩),v,.int .i64 keep] w fun e w' => e = .returned (.tuple #[])∧∃ col' vl,Hid (PrI w' col' o x i K { D with vl:=vl,bytes:=D.bytes ++ (recBytes ⟨1,D.num+1,l⟩).take keep.toNat }.fall)∧Hid (FrC (ofPrg o i) col col' w w'):=by
 obtain ⟨i0,hi,hz0,hz1,hz2⟩:=info_parts ze1
 obtain ⟨ad,cap,rfl,hcp,H⟩:=id hv
 clear H
 have hnx:=zjb K.R i D.num _ l w (h.cells.c1) hT.rules hv.slice hmay (by omega) (by omega)
 have hbl:(recBytes ⟨1,D.num+1,l⟩).length≤268435456:=by
  have:=zjR 1 (D.num+1) l hmay
  omega
 have hbp:0<(recBytes ⟨1,D.num+1,l⟩).length:=by rw [zjT];omega
 have HI:Hid (PrI w col o x i K D):=h
 have c11:=h.cells.c11
 obtain ⟨adl,capl,hvl,hcl⟩:=h.p.log.form
 rw [hvl] at c11
 have hltR:=h.ltR
 have HLOG:Hid (∀ W,Below w.heap.size w W→W.ownsRow 0 5 1 (.slice adl D.bytes.length capl) D.bytes.length (bcells D.bytes)):=fun W hW=>by rw [← hvl];exact zh5 h.p.log.own hW
 have HGR:Hid (∀ w1 w2 g cap2 H bs,Below w.heap.size w w1→w2.ownsRow 0 5 1 (.slice (some ⟨g,0,none⟩) (D.bytes.length+bs.length) cap2) (D.bytes.length+bs.length) (bcells D.bytes ++ bcells bs)→w1.grownBy w2 (Value.slice adl D.bytes.length capl).ownBlock→((Value.slice adl D.bytes.length capl).ownBlock=some g∨g=H)→w1.heap.size=H →
   w2.cell? ⟨K.R,i*14+11,none⟩=some (.slice adl D.bytes.length capl)∧w2.frozen? ⟨K.R,i*14+11,none⟩=false∧TearMid w col o x i K D bs (w2.setCell ⟨K.R,i*14+11,none⟩ (.slice (some ⟨g,0,none⟩) (D.bytes.length+bs.length) cap2))):=by
  intro w1 w2 g cap2 H bs a1 a2 a3 a4 a5
  rw [← hvl] at a3 a4
  obtain ⟨b1,b2,b3,b4⟩:=h.growLog a1 rfl a2 a3 a4 a5
  rw [hvl] at b3
  exact ⟨b3,b4,_,_,b1,b2⟩
 have HZ:Hid (∀ w1,Below w.heap.size w w1→w1.cell? ⟨K.R,i*14+11,none⟩=some (.slice adl D.bytes.length capl)∧w1.frozen? ⟨K.R,i*14+11,none⟩=false∧TearMid w col o x i K D [] (w1.setCell ⟨K.R,i*14+11,none⟩ (.slice adl D.bytes.length capl))):=by
  intro w1 a1
  have h1:=h.same a1
  refine ⟨by have:=h1.cells.c11;rwa [hvl] at this,h1.cells.fz _,?_⟩
  obtain ⟨h2,h3⟩:=h1.put (k:=11) (u := .slice adl D.bytes.length capl) (by omega) D (by rw [← hvl];rfl) rfl rfl rfl rfl rfl rfl rfl
  exact ⟨col,D.vl,by rw [List.append_nil];exact h2,(zdJ a1).trans h3⟩
 clear h hv hT hmay
 generalize hbsE:recBytes ⟨1,D.num+1,l⟩=bs at *
 have HBS:Hid (recBytes ⟨1,D.num+1,l⟩=bs):=hbsE
 clear hbsE hvl
 go_enter Tryz.func65,Tryz.ntmps65
 go_wp2_with fail
 refine hnx.mono ?_
 rintro e w1 ⟨v1,rfl,hb1,hbw1⟩
 obtain ⟨b1,cp1,hv1,hn1⟩:=za9 hb1.out hbp
 subst hv1
 have hcp1:bs.length≤cp1:=(zh0 hb1.out.1).2.1
 have hcm1:cp1≤9223372036854775807:=by have:=(zh0 hb1.out.1).2.2.1;unfold maxLen at this;omega
 obtain ⟨k,hk,hkl⟩:∃ k:Nat,max 0 (min keep (bs.length:Int))=(k:Int)∧k≤bs.length:=⟨(max 0 (min keep (bs.length:Int))).toNat,by omega,by omega⟩
 have hkc:k≤cp1:=by omega
 have HKT:Hid (bs.take keep.toNat=bs.take k):=by
  rw [Hid]
  by_cases hle:keep≤bs.length
  ·rw [show keep.toNat=k by omega]
  ·rw [List.take_of_length_le (by omega),List.take_of_length_le (by omega)]
 have hD1:Below w.heap.size w w1.drew:=⟨hbw1.os,hbw1.tape,hbw1.output,hbw1.size,hbw1.block⟩
 have k11:=(hbw1.cell (p:=⟨K.R,i*14+11,none⟩) hltR).trans c11
 go_wp2_with fail
 go_cut [] from 7 (fun wc=>Hid (TearMid w col o x i K D (bs.take k) wc))
 case first =>
  by_cases hk0:k=0
  ·subst hk0
   obtain ⟨z0,z1,z2⟩:=HZ.out w1.drew hD1
   go_region_law (refine zlZ rfl _ _ 124 rfl 5 i0 Tryz.underlying124 hi _ 0 1 D.bytes.length (bcells D.bytes) rfl (HLOG.out _ hD1) (some ⟨b1,0,none⟩) cp1 rfl ?_)
   all_goals go_wp2
   all_goals go_meet
   all_goals (case rel=>rw [List.take_zero];exact z2)
  ·have hkp:0<k:=by omega
   have hlk:(bs.take k).length=k:=by rw [List.length_take];omega
   have HLK:Hid ((bs.take k).length=k):=hlk
   have hnk:∀ j u,(bcells (bs.take k))[j]? = some u→w1.drew.cell? ((⟨b1,0,none⟩:Addr).add j)=some u:=fun j u hu=>hn1 j u (zaK hu)
   generalize bs.take k=bt at *
   have HNK:Hid (∀ j u,(bcells bt)[j]? = some u→w1.drew.cell? ((⟨b1,0,none⟩:Addr).add j)=some u):=hnk
   clear hnk hlk
   go_region_law (refine step_append_lies _ rfl (.tmp 19) (.tmp 22) 124 rfl 0 5 i0 _ 1 1 Tryz.underlying124 hi hz0 hz1 hz2 rfl (by decide) _ D.bytes.length _ rfl (HLOG.out _ hD1) ⟨b1,0,none⟩ k cp1 (bcells bt) rfl (by rw [zaI,Nat.mul_one,HLK.out]) HNK.out (zaJ bt) hkp (by unfold maxLen;omega) (by omega) (Nat.zero_le _) w1.heap.size rfl ?_;intro g2 cap2 w2 hown2 hgrow2 hat2 hlt2;obtain ⟨q11,q11f,hmid⟩:=HGR.out w1.drew w2 g2 cap2 w1.heap.size bt hD1 (by rw [HLK.out];exact hown2) hgrow2 hat2 rfl;rw [HLK.out] at hmid)
   all_goals go_wp2
   all_goals go_meet
   all_goals (case rel=>exact hmid)
 case rest =>
  obtain ⟨col2,vl2,hI2,hF2⟩:=hcut
  generalize wc=w2 at *
  have hfa:=zi0 hI2.b hI2.h6 hI2.hi hI2.p
  have HQ:Hid (∀ vl,({ D with vl:=vl,bytes:=D.bytes ++ bs.take k }:PrD)={ D with vl:=vl,bytes:=D.bytes ++ bs.take keep.toNat }):=fun vl=>by rw [HKT.out]
  have HF2:Hid (FrC (ofPrg o i) col col2 w w2):=hF2
  have H6:Hid (K.Ds.length≤6∧i<K.Ds.length):=⟨hI2.h6,hI2.hi⟩
  clear hI2 hF2 HGR HZ HLOG k11 hk hkc
  go_wp2_with fail
  refine hfa.mono ?_
  rintro e w3 ⟨rfl,a1,a2,a3⟩
  have HIF:Hid (PrI w3 col2 o x i K { D with vl:=vl2,bytes:=D.bytes ++ bs.take k }.fall):=⟨a1,a2,H6.out.1,H6.out.2⟩
  have HF3:Hid (FrC (ofPrg o i) col col2 w w3):=HF2.out.trans a3
  clear a1 a2 a3 hfa
  rw [HQ.out] at HIF
  go_wp2
  go_end0
  exact ⟨rfl,col2,vl2,HIF,HF3⟩
end Go.Proofs.YtahdlejgjcjeoabGreatDoor
