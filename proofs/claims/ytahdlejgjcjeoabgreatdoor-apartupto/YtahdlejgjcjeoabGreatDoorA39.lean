/- The program's network: Frame. -/
import Derived.Test.YtahdlejgjcjeoabGreatDoorA38
import Derived.Test.YtahdlejgjcjeoabGreatDoorA30
import Derived.Test.YtahdlejgjcjeoabGreatDoorA35
namespace Go.Proofs.YtahdlejgjcjeoabGreatDoor
set_option maxHeartbeats 8000000
open Go.RowKit
section
variable {Z:Snap} {w w' : World} {W x y B M N t:Nat} {U:List At} {c cR cP:Clu}
set_option maxRecDepth 100000 in
theorem Gm.lAct3 (h:Gm Z w W x y B M c)(hok:c.ok U N)(hL:Lim U N)(r q n ty:Int)(ky:ByteArray)(sd:Int)(el:ByteArray)(on:Int)(key:ByteArray) :
  Calls Tryz.prog 7 #[.pointer (some ⟨W,0,none⟩),.agg #[.int .i64 3,.int .i64 r,.int .i64 q,.int .i64 n,.int .i64 ty,.string ky,.int .i64 sd,.string el,.int .i64 on,.string key]] w fun e w' => e = .returned (.bool true)∧Gm Z w' W x y B M (c.crash r):=by
 have HG:=Hid.mk h
 have c0:=h.cell0
 have c1:=h.cell1
 have hlt:W<w.heap.size:=by obtain ⟨col,KR,KP,g⟩:=h;exact zaY g.wb
 have HK:=Hid.mk hok
 have HLM:=Hid.mk hL
 have HT:Hid (∀ W',W'.heap=(w.alloc (.cells #[.int .i64 3,.int .i64 r,.int .i64 q,.int .i64 n,.int .i64 ty,.string ky,.int .i64 sd,.string el,.int .i64 on,.string key] 33)).heap→Below w.heap.size w W' → Gt Z W' W x y B M w.heap.size (actB 3 r q n ty ky sd el on key) c c):=fun W' he hb=>HG.out.withT hb (by rw [he];exact heap_alloc_new w _)
 clear h hok hL
 go_enter Tryz.func7,Tryz.ntmps7
 go_wp2_with fail
 go_region_law (first | (go_simp;go_at_call 26;refine ((HT.out _ (by rfl) (by first | exact zaO (Below.refl _ _) _ | exact (zaO (Below.refl _ _) _).drew)).pCrash HK.out HLM.out r).mono ?_;rintro e w3 ⟨rfl,h3⟩;have H3:=Hid.mk h3;have c1:=h3.cell1;have d1:=zaX h3.blk 1;simp [] at d1;clear h3) | fail)
 all_goals
  go_wp2_with fail
  go_region_law (first | (go_simp;go_at_call 27;refine ((by first | exact H3.out | exact H3.out.same (Below.refl _ _).drew:Gt Z _ W x y B M w.heap.size _ c _).dCrash HK.out HLM.out r).mono ?_;rintro e w4 ⟨rfl,h4⟩;have H4:=Hid.mk h4;clear h4) | fail)
  all_goals
   generalize c.works r=E at *
   go_wp2
   go_ret
   exact ⟨by simp,H4.out.gm⟩
set_option maxRecDepth 100000 in
theorem Gm.lAct4 (h:Gm Z w W x y B M c)(hok:c.ok U N)(hL:Lim U N)(r q n ty:Int)(ky:ByteArray)(sd:Int)(el:ByteArray)(on:Int)(key:ByteArray) :
  Calls Tryz.prog 7 #[.pointer (some ⟨W,0,none⟩),.agg #[.int .i64 4,.int .i64 r,.int .i64 q,.int .i64 n,.int .i64 ty,.string ky,.int .i64 sd,.string el,.int .i64 on,.string key]] w fun e w' => e = .returned (.bool true)∧Gm Z w' W x y B M (c.start r):=by
 have HG:=Hid.mk h
 have c0:=h.cell0
 have c1:=h.cell1
 have hlt:W<w.heap.size:=by obtain ⟨col,KR,KP,g⟩:=h;exact zaY g.wb
 have HK:=Hid.mk hok
 have HLM:=Hid.mk hL
 have HT:Hid (∀ W',W'.heap=(w.alloc (.cells #[.int .i64 4,.int .i64 r,.int .i64 q,.int .i64 n,.int .i64 ty,.string ky,.int .i64 sd,.string el,.int .i64 on,.string key] 33)).heap→Below w.heap.size w W' → Gt Z W' W x y B M w.heap.size (actB 4 r q n ty ky sd el on key) c c):=fun W' he hb=>HG.out.withT hb (by rw [he];exact heap_alloc_new w _)
 clear h hok hL
 go_enter Tryz.func7,Tryz.ntmps7
 go_wp2_with fail
 go_region_law (first | (go_simp;go_at_call 28;refine ((HT.out _ (by rfl) (by first | exact zaO (Below.refl _ _) _ | exact (zaO (Below.refl _ _) _).drew)).pStart HK.out HLM.out r).mono ?_;rintro e w3 ⟨rfl,h3⟩;have H3:=Hid.mk h3;have c1:=h3.cell1;have d1:=zaX h3.blk 1;simp [] at d1;clear h3) | fail)
 all_goals
  go_wp2_with fail
  go_region_law (first | (go_simp;go_at_call 29;refine ((by first | exact H3.out | exact H3.out.same (Below.refl _ _).drew:Gt Z _ W x y B M w.heap.size _ c _).dStart HK.out HLM.out r).mono ?_;rintro e w4 ⟨rfl,h4⟩;have H4:=Hid.mk h4;clear h4) | fail)
  all_goals
   generalize c.startErr r=E at *
   go_wp2
   go_ret
   exact ⟨by simp,H4.out.gm⟩
set_option maxRecDepth 100000 in
theorem Gm.lAct5 (h:Gm Z w W x y B M c)(hok:c.ok U N)(hL:Lim U N)(r q n ty:Int)(ky:ByteArray)(sd:Int)(el:ByteArray)(on:Int)(key:ByteArray) :
  Calls Tryz.prog 7 #[.pointer (some ⟨W,0,none⟩),.agg #[.int .i64 5,.int .i64 r,.int .i64 q,.int .i64 n,.int .i64 ty,.string ky,.int .i64 sd,.string el,.int .i64 on,.string key]] w fun e w' => e = .returned (.bool true)∧Gm Z w' W x y B M (c.compact r):=by
 have HG:=Hid.mk h
 have c0:=h.cell0
 have c1:=h.cell1
 have hlt:W<w.heap.size:=by obtain ⟨col,KR,KP,g⟩:=h;exact zaY g.wb
 have HK:=Hid.mk hok
 have HLM:=Hid.mk hL
 have HT:Hid (∀ W',W'.heap=(w.alloc (.cells #[.int .i64 5,.int .i64 r,.int .i64 q,.int .i64 n,.int .i64 ty,.string ky,.int .i64 sd,.string el,.int .i64 on,.string key] 33)).heap→Below w.heap.size w W' → Gt Z W' W x y B M w.heap.size (actB 5 r q n ty ky sd el on key) c c):=fun W' he hb=>HG.out.withT hb (by rw [he];exact heap_alloc_new w _)
 clear h hok hL
 go_enter Tryz.func7,Tryz.ntmps7
 go_wp2_with fail
 go_region_law (first | (go_simp;go_at_call 30;refine ((HT.out _ (by rfl) (by first | exact zaO (Below.refl _ _) _ | exact (zaO (Below.refl _ _) _).drew)).pCompact HK.out HLM.out r).mono ?_;rintro e w3 ⟨rfl,h3⟩;have H3:=Hid.mk h3;have c1:=h3.cell1;have d1:=zaX h3.blk 1;simp [] at d1;clear h3) | fail)
 all_goals
  go_wp2_with fail
  go_region_law (first | (go_simp;go_at_call 31;refine ((by first | exact H3.out | exact H3.out.same (Below.refl _ _).drew:Gt Z _ W x y B M w.heap.size _ c _).dCompact HK.out HLM.out r).mono ?_;rintro e w4 ⟨rfl,h4⟩;have H4:=Hid.mk h4;clear h4) | fail)
  all_goals
   generalize c.works r=E at *
   go_wp2
   go_ret
   exact ⟨by simp,H4.out.gm⟩
end
section
variable {Z:Snap} {w w' : World} {W x y B M N t:Nat} {U:List At} {c cR cP:Clu}
set_option maxRecDepth 100000 in
theorem Gm.lActAsks (h:Gm Z w W x y B M c)(hok:c.ok U N)(hL:Lim U N)(hM:M≤15000000)(k r q n ty:Int)(ky:ByteArray)(sd:Int)(el:ByteArray)(on:Int)(key:ByteArray)(hky:key.size≤1099511627776)(hk:k=11∨k=13∨k=14∨k=15∨k=16∨k=17) :
  Calls Tryz.prog 7 #[.pointer (some ⟨W,0,none⟩),.agg #[.int .i64 k,.int .i64 r,.int .i64 q,.int .i64 n,.int .i64 ty,.string ky,.int .i64 sd,.string el,.int .i64 on,.string key]] w fun e w' => e = .returned (.bool true)∧Gm Z w' W x y B (M+36) c:=by
 have HAsk:=Hid.mk (fun W' (hg:Gm Z W' W x y B M c)=>hg.lAsks hok hL hM ⟨k,r,q,n,⟨ty,ky,sd,el,on⟩,key⟩ hky)
 have HG:=Hid.mk h
 unfold ActV.val at HAsk
 simp only at HAsk
 clear h hok hL hky
 rcases hk with rfl | rfl | rfl | rfl | rfl | rfl
 all_goals
  go_enter Tryz.func7,Tryz.ntmps7
  go_wp2_with fail
  refine (HAsk.out _ (HG.out.same (by first | exact zaO (Below.refl _ _) _ | exact (zaO (Below.refl _ _) _).drew))).mono ?_
  rintro e w3 ⟨rfl,h3⟩
  have H3:=Hid.mk h3
  clear h3 HAsk
  go_wp2
  go_ret
  exact ⟨rfl,H3.out⟩
set_option maxRecDepth 100000 in
theorem Gm.lActOth (h:Gm Z w W x y B M c)(k r q n ty:Int)(ky:ByteArray)(sd:Int)(el:ByteArray)(on:Int)(key:ByteArray)(hk:k ≠ 1∧k ≠ 2∧k ≠ 3∧k ≠ 4∧k ≠ 5∧k ≠ 6∧k ≠ 7∧k ≠ 8∧k ≠ 9∧k ≠ 10∧k ≠ 11∧k ≠ 12∧k ≠ 13∧k ≠ 14∧k ≠ 15∧k ≠ 16∧k ≠ 17) :
  Calls Tryz.prog 7 #[.pointer (some ⟨W,0,none⟩),.agg #[.int .i64 k,.int .i64 r,.int .i64 q,.int .i64 n,.int .i64 ty,.string ky,.int .i64 sd,.string el,.int .i64 on,.string key]] w fun e w' => e = .returned (.bool true)∧Gm Z w' W x y B (M+36) c:=by
 obtain ⟨k1,k2,k3,k4,k5,k6,k7,k8,k9,k10,k11,k12,k13,k14,k15,k16,k17⟩:=hk
 have HG:=Hid.mk h
 clear h
 go_enter Tryz.func7,Tryz.ntmps7
 go_wp2
 go_ret
 exact ⟨rfl,(HG.out.same (by first | exact zaO (Below.refl _ _) _ | exact (zaO (Below.refl _ _) _).drew)).mono (by omega)⟩
end
def Clu.acted (c:Clu)(a:ActV):Clu :=
 if a.k=1 then c.update a.r a.op else if a.k=2 then c.tornOp a.r a.op a.n else if a.k=3 then c.crash a.r else if a.k=4 then c.start a.r else if a.k=5 then c.compact a.r else c
section
variable {Z:Snap} {w w' : World} {W x y B M N:Nat} {U:List At} {c:Clu}
end
open Go.RowKit Go.MuLone
def netS (o:Nat)(κ:Nat × Nat):Prop:=κ=(o,3)∨κ=(o,0)
theorem zgS {o:Nat}:∀ κ,netS o κ→ofOwn o κ:=zgT
theorem zgR {o k:Nat}(h3:k ≠ 3)(h0:k ≠ 0):¬ netS o (o,k):=by
 rintro (e | e)
 ·exact h3 (congrArg Prod.snd e)
 ·exact h0 (congrArg Prod.snd e)
def putN (l:List Frm)(f:Frm):List Frm:=if l.length<200 then l ++ [f] else l
def PrK.setN (K:PrK)(v:Value)(ns:List Fm):PrK:={ K with vF:=v,ns:=ns }
theorem PrK.setN_block (K:PrK)(v:Value)(ns:List Fm):K.block.set 42 v=(K.setN v ns).block:=by
 have hl:(linkB K.near).length=36:=by simp [linkB]
 have e1:K.block=([.int .i32 K.lk,.int .u32 0,.bool K.bp,.bool K.rr,.int .i64 K.room] ++ linkB K.near ++ [.slice (some ⟨K.R,0,none⟩) K.Ds.length K.Ds.length]) ++ [K.vF]:=by simp [PrK.block]
 have e2:(K.setN v ns).block=([.int .i32 K.lk,.int .u32 0,.bool K.bp,.bool K.rr,.int .i64 K.room] ++ linkB K.near ++ [.slice (some ⟨K.R,0,none⟩) K.Ds.length K.Ds.length]) ++ [v]:=by simp [PrK.block,PrK.setN]
 have hz:([.int .i32 K.lk,.int .u32 0,.bool K.bp,.bool K.rr,.int .i64 K.room] ++ linkB K.near ++ [.slice (some ⟨K.R,0,none⟩) K.Ds.length K.Ds.length]:List Value).length=42:=by simp [hl]
 rw [e1,e2,List.set_append_right _ _ (by rw [hz];exact Nat.le_refl _),hz]
 rfl
theorem PrB.setNet {w w' : World}{col col' : Col}{o x:Nat}{ex:Option Nat}{K:PrK}{v:Value}{ns:List Fm}(h:PrB w col o x ex K)(hf:FrC (netS o) col col' w w')
  (hb:w'.heap[x]? = some (.cells (K.setN v ns).block.toArray 108 (0,0)))
  (hn:RowC w' col' (o,3) 110 5 v ns.length (ns.flatMap Fm.cells)) (hd:∀ f∈ns,Held w' col' (o,1) f.v f.f.d):PrB w' col' o x ex (K.setN v ns) where
 blk:=hb
 cx:=(hf.colB h.blk).trans h.cx
 row:=hf.block h.row (by show ¬ netS o (col K.R);rw [h.cR];exact zgR (by omega) (by omega))
 cR:=(hf.colB h.row).trans h.cR
 net:=hn
 netd:=hd
 reps i hi hne:=(h.reps i hi hne).kept hf (zgR (by omega) (by omega)) (zgR (by omega) (by omega)) (zgR (by omega) (by omega)) (zgR (by omega) (by omega))
theorem PrB.pushNet {w1 w2 w3:World}{col:Col}{o x g cap H:Nat}{ex:Option Nat}{K:PrK}{m:Fm}(h:PrB w1 col o x ex K)(hb:Below w1.heap.size w1 w2)
  (hown:w3.ownsRow 0 110 5 (.slice (some ⟨g,0,none⟩) (K.ns.length+1) cap) (K.ns.length+1) (K.ns.flatMap Fm.cells ++ m.cells)) (hg:w2.grownBy w3 K.vF.ownBlock) (hat:K.vF.ownBlock=some g∨g=H) (hH:w1.heap.size≤H) (hd:Held w1 col (o,1) m.v m.f.d) :
  (w3.cell? ⟨x,42,none⟩=some K.vF∧w3.frozen? ⟨x,42,none⟩=false)∧PrB (w3.setCell ⟨x,42,none⟩ (.slice (some ⟨g,0,none⟩) (K.ns.length+1) cap)) (paint col w1.heap.size (o,3)) o x ex (K.setN (.slice (some ⟨g,0,none⟩) (K.ns.length+1) cap) (K.ns ++ [m]))∧FrC (netS o) col (paint col w1.heap.size (o,3)) w1 (w3.setCell ⟨x,42,none⟩ (.slice (some ⟨g,0,none⟩) (K.ns.length+1) cap)):=by
 obtain ⟨hr3,hf3⟩:=h.net.lies hb hown hg hat hH
 have hblk:=hf3.block h.blk (by rw [h.cx];simp)
 have hρ:paint col w1.heap.size (o,3) x=(o,0):=(hf3.colB h.blk).trans h.cx
 have f4:FrC (netS o) col (paint col w1.heap.size (o,3)) w1 (w3.setCell ⟨x,42,none⟩ (.slice (some ⟨g,0,none⟩) (K.ns.length+1) cap)):=(hf3.mono fun κ e => .inl e).trans (zdK (S:=netS o) 42 _ (.inr hρ))
 have f5:FrC (fun κ=>κ=(o,0)) (paint col w1.heap.size (o,3)) (paint col w1.heap.size (o,3)) w3 (w3.setCell ⟨x,42,none⟩ (.slice (some ⟨g,0,none⟩) (K.ns.length+1) cap)):=zdK (S:=fun κ=>κ=(o,0)) 42 _ hρ
 have hc:=zaX hblk 42
 rw [List.getElem?_toArray,show K.block[42]? = some K.vF by
  have hl:(linkB K.near).length=36:=by simp [linkB]
  simp [PrK.block,hl]] at hc
 refine ⟨⟨hc,zaZ hblk 42⟩,?_,f4⟩
 exact h.setNet (ns:=K.ns ++ [m]) (v := .slice (some ⟨g,0,none⟩) (K.ns.length+1) cap) f4 (by
  rw [zeK hblk,List.setIfInBounds_toArray,K.setN_block _ (K.ns ++ [m])]) (by
  rw [List.length_append,List.flatMap_append]
  simpa using hr3.kept f5 (by simp)) (fun f hm=>by
  rcases List.mem_append.1 hm with hm | hm
  ·exact (h.netd f hm).kept f4 (zgR (by omega) (by omega))
  ·obtain rfl:=List.mem_singleton.1 hm
   exact hd.kept f4 (zgR (by omega) (by omega)))
theorem ze8:(Tryz.prog.info? 110).map (fun i=>(i.zero,i.size,i.bytes))=some (some (.agg #[.int .i64 0,.int .i64 0,.int .i64 0,.int .i64 0,.slice none 0 0]),5,56):=by kernel_rfl
set_option maxRecDepth 100000 in
theorem zi5 {w:World}{col:Col}{o x:Nat}{ex:Option Nat}{K:PrK}{f:Frm}{v:Value}(h:PrB w col o x ex K)(hl:K.ns.length≤200)(hd:Held w col (o,1) v f.d) :
  Calls Tryz.prog 79 #[.pointer (some ⟨x,0,none⟩),.agg #[.int .i64 f.kind,.int .i64 f.src,.int .i64 f.dst,.int .i64 f.upto,v]] w fun e w' => e = .returned (.tuple #[])∧∃ v' ns' col',Hid (PrB w' col' o x ex (K.setN v' ns'))∧Hid (ns'.map Fm.f=putN (K.ns.map Fm.f) f)∧Hid (FrC (netS o) col col' w w'):=by
 obtain ⟨adN,cpN,hvN,hcN⟩:=h.net.form
 have c6:=h.cl.2.2.2.2.2.1
 have f6:=h.cl.2.2.2.2.2.2 42
 have hx:=zaY h.blk
 rw [hvN] at c6
 obtain ⟨adv,cpv,hv,_⟩:=id hd
 subst hv
 obtain ⟨i0,hi0,hz0,hz1,hz2⟩:=info_parts ze8
 have H:=Hid.mk h
 have HD:=Hid.mk hd
 obtain ⟨f0,f1,f2,f3,f4⟩:=f
 simp only at *
 by_cases hlt:K.ns.length<200
 ·have HP:Hid (∀ m:Fm,m.f=⟨f0,f1,f2,f3,f4⟩→(K.ns ++ [m]).map Fm.f=putN (K.ns.map Fm.f) ⟨f0,f1,f2,f3,f4⟩):=fun m hm=>by
   unfold putN
   rw [List.length_map,if_pos hlt,List.map_append,← hm]
   rfl
  have q1:(K.ns.length:Int)<200:=by omega
  have q2:K.ns.length<200:=by omega
  go_enter Tryz.func79,Tryz.ntmps79
  go_wp2
  have hfb:=heap_alloc_new w (.cells #[.int .i64 f0,.int .i64 f1,.int .i64 f2,.int .i64 f3,.slice adv f4.length cpv] 110)
  have hb0:=zaO (Below.refl _ w) (.cells #[.int .i64 f0,.int .i64 f1,.int .i64 f2,.int .i64 f3,.slice adv f4.length cpv] 110)
  generalize w.alloc (.cells #[.int .i64 f0,.int .i64 f1,.int .i64 f2,.int .i64 f3,.slice adv f4.length cpv] 110)=w0 at *
  obtain ⟨e0,e1,e2,e3,e4⟩:=zdl hfb
  have h0:=h.below hb0 (o,1)
  have hd0:=hd.kept (S:=fun _=>False) (zdH hb0 (o,1)) id
  have HF0:Hid (FrC (netS o) col (paint col w.heap.size (o,1)) w w0):=zdH hb0 (o,1)
  have c60:=h0.cl.2.2.2.2.2.1
  rw [hvN] at c60
  have f60:=h0.cl.2.2.2.2.2.2 42
  have hx0:=zaY h0.blk
  have hfl:=zaY hfb
  have HOW:Hid (w0.ownsRow 0 110 5 (.slice adN K.ns.length cpN) K.ns.length (K.ns.flatMap Fm.cells)):=by rw [← hvN];exact h0.net.own
  have HPN:Hid (∀ g cap w3,w3.ownsRow 0 110 5 (.slice (some ⟨g,0,none⟩) (K.ns.length+1) cap) (K.ns.length+1) (K.ns.flatMap Fm.cells ++ [.int .i64 f0,.int .i64 f1,.int .i64 f2,.int .i64 f3,.slice adv f4.length cpv])→∀ w2,Below w0.heap.size w0 w2→w2.grownBy w3 (Value.slice adN K.ns.length cpN).ownBlock→(Value.slice adN K.ns.length cpN).ownBlock=some g∨g=w0.heap.size+1→_):=fun g cap w3 k1 w2 k2 k3 k4=>PrB.pushNet (m:=⟨⟨f0,f1,f2,f3,f4⟩,.slice adv f4.length cpv⟩) h0 k2 k1 (by rw [hvN];exact k3) (by rw [hvN];exact k4) (Nat.le_succ _) hd0
  rw [hvN] at HPN
  clear h0 hd0 h hd hfb hb0 H HD c6 f6 hvN hcN
  go_region_law (refine step_append_lies _ rfl _ _ 106 rfl 0 110 i0 _ 5 56 Tryz.underlying106 hi0 hz0 hz1 hz2 rfl (by decide) _ K.ns.length _ rfl (HOW.out.alloc _) ⟨w0.heap.size,0,none⟩ 1 1 [.int .i64 f0,.int .i64 f1,.int .i64 f2,.int .i64 f3,.slice adv f4.length cpv] rfl rfl (World.news_of_block (heap_alloc_new w0 _)) (zdm rfl) (by decide) (by unfold maxLen;omega) (by omega) (by simp) (w0.heap.size+1) (by simp) ?_;intro g3 capn w3 hown3 hgrow3 hat3 hlt3;obtain ⟨⟨k6,l6⟩,hrep3,hfr3⟩:=HPN.out g3 capn w3 hown3 (w0.alloc (.cells #[.int .i64 f0,.int .i64 f1,.int .i64 f2,.int .i64 f3,.slice adv f4.length cpv] 110)) (zaO (Below.refl _ _) _) (zeq hgrow3) hat3)
  all_goals go_wp2
  all_goals go_end0
  all_goals exact ⟨rfl,_,_,_,hrep3,HP.out _ rfl,HF0.out.trans hfr3⟩
 ·have HP:Hid (K.ns.map Fm.f=putN (K.ns.map Fm.f) ⟨f0,f1,f2,f3,f4⟩):=by unfold Hid putN;rw [List.length_map,if_neg hlt]
  have q1:(200:Int)≤(K.ns.length:Int):=by omega
  go_enter Tryz.func79,Tryz.ntmps79
  go_wp2
  go_end0
  exact ⟨rfl,K.vF,K.ns,col,H.out.same (zaO (Below.refl _ _) _),HP,zdJ (zaO (Below.refl _ _) _)⟩
theorem zdV {ns:List Fm}{w:World}{col:Col}{κ:Nat × Nat}(h:∀ f∈ns,Held w col κ f.v f.f.d):∀ u∈ns.flatMap Fm.cells,u.oneCell' = true:=by
 intro u hu
 obtain ⟨f,hf,hu⟩:=List.mem_flatMap.1 hu
 obtain ⟨ad,cp,hv,-⟩:=h f hf
 simp only [Fm.cells,List.mem_cons,List.not_mem_nil,or_false] at hu
 rcases hu with rfl | rfl | rfl | rfl | rfl
 ·rfl
 ·rfl
 ·rfl
 ·rfl
 ·rw [hv];rfl
theorem zdw {ns:List Fm}{k:Nat}(hk:k<ns.length):(ns.flatMap Fm.cells).take (k*5) ++ (ns.flatMap Fm.cells).drop ((k+1)*5)=(ns.eraseIdx k).flatMap Fm.cells:=by
 induction ns generalizing k with
 | nil=>simp at hk
 | cons a l ih =>
  cases k with
  | zero=>simp [Fm.cells]
  | succ k =>
   have:=ih (k:=k) (by simpa using hk)
   rw [List.eraseIdx_cons_succ,List.flatMap_cons,List.flatMap_cons,← this]
   have e1:(k+1)*5=a.cells.length+k*5:=by show _=5+_;omega
   have e2:(k+1+1)*5=a.cells.length+(k+1)*5:=by show _=5+_;omega
   rw [e2,List.drop_length_add_append,e1,List.take_length_add_append,List.append_assoc]
theorem PrB.delNet {w:World}{col:Col}{o x g cap n k:Nat}{ex:Option Nat}{K:PrK}(h:PrB w col o x ex K)(hn:K.ns.length=n+1)(hk:k<n+1)(hv:K.vF = .slice (some ⟨g,0,none⟩) (n+1) cap) :
  Calls Tryz.prog 100 #[.slice (some ⟨g,0,none⟩) (n+1) cap,.int .i64 k,.int .i64 ((k:Int)+1)] w fun e w' => e = .returned (.slice (some ⟨g,0,none⟩) n cap)∧w'.cell? ⟨x,42,none⟩=some (.slice (some ⟨g,0,none⟩) (n+1) cap)∧w'.frozen? ⟨x,42,none⟩=false ∧
   Hid (PrB (w'.setCell ⟨x,42,none⟩ (.slice (some ⟨g,0,none⟩) n cap)) col o x ex (K.setN (.slice (some ⟨g,0,none⟩) n cap) (K.ns.eraseIdx k)))∧Hid (FrC (netS o) col col w (w'.setCell ⟨x,42,none⟩ (.slice (some ⟨g,0,none⟩) n cap))):=by
 have hrow:=h.net
 rw [hv,hn] at hrow
 have hd:=delFrm g cap (n+1) k (k+1) _ w hrow.own (zdV h.netd) rfl hk
 refine Calls.mono (show Calls Tryz.prog 100 #[.slice (some ⟨g,0,none⟩) (n+1) cap,.int .i64 k,.int .i64 ((k:Int)+1)] w _ from hd) ?_
 rintro e w' ⟨rfl,rfl⟩
 obtain ⟨r1,r2⟩:=hrow.del (i:=k) (zl:=zeroF) hk rfl
 rw [zdw (by omega),show n+1 - 1=n by omega] at r1
 rw [show n+1 - 1=n by omega] at r2
 have hl:n=(K.ns.eraseIdx k).length:=by rw [List.length_eraseIdx];split <;> omega
 rw [show n+1 - 1=n by omega]
 generalize (w.drew.setCells g (k*5) (List.drop ((k+1)*5) (K.ns.flatMap Fm.cells))).setCells g (n*5) zeroF=W at *
 have hblk:=r2.block h.blk (by rw [h.cx];simp)
 have f4:FrC (netS o) col col w (W.setCell ⟨x,42,none⟩ (.slice (some ⟨g,0,none⟩) n cap)):=(r2.mono fun κ e => .inl e).trans (zdK (S:=netS o) 42 _ (.inr h.cx))
 have f5:FrC (fun κ=>κ=(o,0)) col col W (W.setCell ⟨x,42,none⟩ (.slice (some ⟨g,0,none⟩) n cap)):=zdK (S:=fun κ=>κ=(o,0)) 42 _ h.cx
 have hc:=zaX hblk 42
 rw [List.getElem?_toArray,show K.block[42]? = some K.vF by
  have hl:(linkB K.near).length=36:=by simp [linkB]
  simp [PrK.block,hl],hv] at hc
 refine ⟨rfl,hc,zaZ hblk 42,?_,f4⟩
 exact h.setNet (ns:=K.ns.eraseIdx k) f4 (by
  rw [zeK hblk,List.setIfInBounds_toArray,K.setN_block _ (K.ns.eraseIdx k)]) (by rw [← hl];exact r1.kept f5 (by simp)) (fun f hm=>(h.netd f (List.mem_of_mem_eraseIdx hm)).kept f4 (zgR (by omega) (by omega)))
set_option maxRecDepth 100000 in
theorem zi8 {w:World}{col:Col}{o x:Nat}{ex:Option Nat}{K:PrK}{k:Nat}(h:PrB w col o x ex K)(hk:k<K.ns.length)(hl:K.ns.length≤200) :
  Calls Tryz.prog 47 #[.pointer (some ⟨x,0,none⟩),.int .i64 k] w fun e w' => e = .returned (.tuple #[])∧∃ v',Hid (PrB w' col o x ex (K.setN v' (K.ns.eraseIdx k)))∧Hid (FrC (netS o) col col w w'):=by
 obtain ⟨n,hn⟩:∃ n,K.ns.length=n+1:=⟨K.ns.length - 1,by omega⟩
 obtain ⟨g,cap,hv,hcap,-⟩:=h.net.at (by omega)
 rw [hn] at hv
 have HD:=Hid.mk (fun W (hb:Below w.heap.size w W)=>(h.same hb).delNet hn (k:=k) (by omega) hv)
 have c42:=h.cl.2.2.2.2.2.1
 rw [hv] at c42
 have hx:=zaY h.blk
 have q1:(k:Int)+1≤200:=by omega
 have q0:(0:Int)≤k:=by omega
 clear h hn hv
 go_enter Tryz.func47,Tryz.ntmps47
 go_wp2_with fail
 refine (HD.out _ (Below.refl _ _)).mono ?_
 rintro e w2 ⟨rfl,y0,y1,y2,y3⟩
 go_wp2
 go_end0
 exact ⟨rfl,_,y2,y3⟩
set_option maxRecDepth 100000 in
theorem zdQ {w:World}{col:Col}{o x:Nat}{ex:Option Nat}{K:PrK}{k:Nat}(h:PrB w col o x ex K)(hk:k<K.ns.length) :
  Calls Tryz.prog 46 #[.pointer (some ⟨x,0,none⟩),.int .i64 k] w fun e w' => e = .returned (.tuple #[.agg (K.ns[k]).cells.toArray,.int .i64 0])∧Below w.heap.size w w' := by
 obtain ⟨ad,cap,hv,hcap,H⟩:=h.net.elem (f:=Fm.cells) (s:=5) (fun _=>rfl)
 obtain ⟨g,rfl,hg,-,-,hrow⟩:=H (by omega)
 have c42:=h.cl.2.2.2.2.2.1
 rw [hv] at c42
 obtain ⟨adv,cpv,hvv,-⟩:=h.netd _ (List.getElem_mem hk)
 have r0:=hrow k hk 0 _ rfl
 have r1:=hrow k hk 1 _ rfl
 have r2:=hrow k hk 2 _ rfl
 have r3:=hrow k hk 3 _ rfl
 have r4:=hrow k hk 4 _ rfl
 have hx:=zaY h.blk
 rw [Nat.add_zero] at r0
 generalize K.ns[k]=m at *
 obtain ⟨⟨f0,f1,f2,f3,fd⟩,v⟩:=m
 simp only at *
 subst hvv
 unfold Fm.cells
 simp only
 clear H hrow
 generalize hL:K.ns.length=L at *
 have q1:(k:Int)<(L:Int):=by omega
 have q0:(0:Int)≤(k:Int):=by omega
 have q2:¬ (k:Int)<0:=by omega
 have q3:¬ (L:Int)≤(k:Int):=by omega
 clear h hv
 go_enter Tryz.func46,Tryz.ntmps46
 go_wp2
 have hb:=heap_alloc_new w (.cells #[.int .i64 f0,.int .i64 f1,.int .i64 f2,.int .i64 f3,.slice adv fd.length cpv] 110)
 refine bodyPost_ret (v := .tuple #[.agg #[.int .i64 f0,.int .i64 f1,.int .i64 f2,.int .i64 f3,.slice adv fd.length cpv],.int .i64 0]) ?_ rfl ⟨rfl,zaO (Below.refl _ _) _⟩
 exact zkK Tryz.results46 _ rfl rfl (run_loadVar_row _ _ _ _ _ _ _ hb Tryz.underlying110 rfl ze9)
theorem PrK.is.setN {K:PrK}{c:Clu}{v:Value}{ns:List Fm}{net:List Frm}(h:K.is c)(hn:ns.map Fm.f=net):(K.setN v ns).is { c with net:=net } where
 lk:=h.lk
 bp:=h.bp
 rr:=h.rr
 room:=h.room
 near:=h.near
 len:=h.len
 nets:=hn
 reps:=h.reps
theorem zgn (ns:List Fm)(k:Nat):(ns.eraseIdx k).map Fm.f=(ns.map Fm.f).eraseIdx k:=by
 induction ns generalizing k with
 | nil=>rfl
 | cons a l ih=>cases k with
  | zero=>rfl
  | succ k=>simp [ih]
theorem PrgAt.lenN {w:World}{col:Col}{o x:Nat}{K:PrK}{c:Clu}(h:PrgAt w col o x K c):K.ns.length=c.net.length:=by rw [← h.is.nets,List.length_map]
theorem zgP {c:Clu}{k:Int}(hk:¬ (0≤k∧k<c.net.length)):c.netErr k=10∧c.dropF k=c∧c.copyF k=c∧c.deliver k=c:=by
 have:c.has k=false:=by unfold Clu.has;exact decide_eq_false hk
 simp [Clu.netErr,Clu.dropF,Clu.copyF,Clu.deliver,this]
theorem zgQ {c:Clu}{k:Nat}(hk:k<c.net.length):c.netErr k=0∧c.dropF k=c.out k∧c.copyF k=c.put (c.frm k)∧c.deliver k=(c.out k).arrived (c.frm k):=by
 have:c.has k=true:=by unfold Clu.has;exact decide_eq_true (by omega)
 simp [Clu.netErr,Clu.dropF,Clu.copyF,Clu.deliver,this]
theorem zjA (c:Clu)(f:Frm):c.put f={ c with net:=putN c.net f }:=by
 unfold Clu.put putN
 split <;> rfl
theorem PrgAt.locked {w:World}{col:Col}{o x:Nat}{K:PrK}{c:Clu}(h:PrgAt w col o x K c):PrAt (w.setCell ⟨x,0,none⟩ (.int .i32 1)) col o x { K with lk:=1 }∧FrC (ofOwn o) col col w (w.setCell ⟨x,0,none⟩ (.int .i32 1)):=by
 obtain ⟨h1,h2⟩:=h.at_.lock 1
 exact ⟨h1,h2.mono zhh⟩
set_option maxRecDepth 100000 in
theorem ziY {w:World}{col:Col}{o x N:Nat}{U:List At}{K:PrK}{c:Clu}(h:PrgAt w col o x K c)(hok:c.ok U N)(k:Int) :
  Calls Tryz.prog 13 #[.pointer (some ⟨x,0,none⟩),.int .i64 k] w fun e w' => e = .returned (.int .i64 (c.netErr k))∧∃ K' col',Hid (PrgAt w' col' o x K' (c.dropF k))∧Hid (FrC (ofOwn o) col col' w w'):=by
 have hcl:=h.at_.clAt h.is.lk
 by_cases hk:0≤k∧k<c.net.length
 ·obtain ⟨m,rfl⟩:∃ m:Nat,k=m:=⟨k.toNat,by omega⟩
  have hm:m<c.net.length:=by omega
  obtain ⟨e1,e2,-,-⟩:=zgQ hm
  rw [e1,e2]
  have hmn:m<K.ns.length:=by rw [h.lenN];exact hm
  have hl200:K.ns.length≤200:=by rw [h.lenN];exact hok.netL
  obtain ⟨k1,k2⟩:=h.locked
  have HFR:=Hid.mk (zdQ (k:=m) k1 hmn)
  have HLO:=Hid.mk (fun W (hb:Below (w.setCell ⟨x,0,none⟩ (.int .i32 1)).heap.size (w.setCell ⟨x,0,none⟩ (.int .i32 1)) W)=>zi8 (k1.same hb) hmn hl200)
  have HEND:Hid (∀ (W W' : World) (v' : Value),Below (w.setCell ⟨x,0,none⟩ (.int .i32 1)).heap.size (w.setCell ⟨x,0,none⟩ (.int .i32 1)) W→PrB W' col o x none (({ K with lk:=1 }:PrK).setN v' (K.ns.eraseIdx m))→FrC (netS o) col col W W' → W'.cell? ⟨x,0,none⟩=some (.int .i32 1)∧W'.frozen? ⟨x,0,none⟩=false∧PrgAt (W'.setCell ⟨x,0,none⟩ (.int .i32 0)) col o x (K.setN v' (K.ns.eraseIdx m)) (c.out m)∧FrC (ofOwn o) col col w (W'.setCell ⟨x,0,none⟩ (.int .i32 0))):=fun W W' v' hb h1 h2=>by
   obtain ⟨u0,u1,u2,u3⟩:=PrB.unlock (K:=K.setN v' (K.ns.eraseIdx m)) h1 h.is.lk
   exact ⟨u0,u1,⟨u2,h.is.setN (by rw [zgn,h.is.nets]),h.n⟩,((k2.trans (zdJ hb)).trans (h2.mono zgS)).trans (u3.mono zhh)⟩
  obtain ⟨adv,cpv,hvv,-⟩:=h.at_.netd _ (List.getElem_mem hmn)
  clear k1 k2 h hok
  unfold Fm.cells at HFR
  generalize K.ns[m]=fm at *
  obtain ⟨⟨f0,f1,f2,f3,fd⟩,fv⟩:=fm
  simp only at hvv HFR
  subst hvv
  go_enter_defers Tryz.func13,Tryz.ntmps13
  go_wp2_with (go_at_call 44;refine (lock_free zgD ⟨x,0,none⟩ _ hcl.c0 hcl.f0).mono ?_;rintro e w' ⟨rfl,rfl⟩)
  refine HFR.out.mono ?_
  rintro e w2 ⟨rfl,hb2⟩
  go_wp2_with fail
  refine (HLO.out _ (zaO hb2 _)).mono ?_
  rintro e w3 ⟨rfl,v',h3,f3⟩
  obtain ⟨u0,u1,hK',hF'⟩:=HEND.out _ _ v' (zaO hb2 _) h3.out f3.out
  have HK' := zeT hK'
  have HF' := zeT hF'
  clear hK' hF' h3 f3 HEND HLO HFR hb2
  go_wp2
  refine leaves_cons (f:=45) (args:=#[.pointer (some ⟨x,0,none⟩)]) (by simp) (by simp [go_sem]) ?_
  refine (unlock_deferred zgD ⟨x,0,none⟩ .returning _ u0 u1).mono ?_
  rintro e u' w'' ⟨rfl,rfl,rfl⟩
  exact ⟨_,results_tmp rfl _ _ _,rfl,_,_,HK',HF'⟩
 ·obtain ⟨e1,e2,-,-⟩:=zgP hk
  rw [e1,e2]
  obtain ⟨ad,cap,hv,_⟩:=h.at_.net.form
  have c42:=h.at_.cl.2.2.2.2.2.1
  rw [hv] at c42
  exact (ziZ x K.R _ _ k w hcl ad K.ns.length cap c42 (by rw [h.lenN];exact hk)).mono fun e w' ⟨h1,h2⟩=>⟨h1,K,col,h.same h2,zdJ h2⟩
set_option maxRecDepth 100000 in
theorem ziT {w:World}{col:Col}{o x N:Nat}{U:List At}{K:PrK}{c:Clu}(h:PrgAt w col o x K c)(hok:c.ok U N)(k:Int) :
  Calls Tryz.prog 84 #[.pointer (some ⟨x,0,none⟩),.int .i64 k] w fun e w' => e = .returned (.int .i64 (c.netErr k))∧∃ K' col',Hid (PrgAt w' col' o x K' (c.copyF k))∧Hid (FrC (ofOwn o) col col' w w'):=by
 have hcl:=h.at_.clAt h.is.lk
 by_cases hk:0≤k∧k<c.net.length
 ·obtain ⟨m,rfl⟩:∃ m:Nat,k=m:=⟨k.toNat,by omega⟩
  have hm:m<c.net.length:=by omega
  obtain ⟨e1,-,e2,-⟩:=zgQ hm
  rw [e1,e2]
  have hmn:m<K.ns.length:=by rw [h.lenN];exact hm
  have hl200:K.ns.length≤200:=by rw [h.lenN];exact hok.netL
  obtain ⟨k1,k2⟩:=h.locked
  have hfm:c.frm m=(K.ns[m]).f:=by
   unfold Clu.frm
   rw [← h.is.nets,List.getD_eq_getElem?_getD,List.getElem?_map,List.getElem?_eq_getElem hmn]
   rfl
  have HFR:=Hid.mk (zdQ (k:=m) k1 hmn)
  have HLO:=Hid.mk (fun W (hb:Below (w.setCell ⟨x,0,none⟩ (.int .i32 1)).heap.size (w.setCell ⟨x,0,none⟩ (.int .i32 1)) W)=>zi5 (k1.same hb) hl200 ((k1.same hb).netd _ (List.getElem_mem hmn)))
  have HEND:Hid (∀ (W W' : World) (v' : Value) (ns' : List Fm) (col' : Col),Below (w.setCell ⟨x,0,none⟩ (.int .i32 1)).heap.size (w.setCell ⟨x,0,none⟩ (.int .i32 1)) W→PrB W' col' o x none (({ K with lk:=1 }:PrK).setN v' ns')→ns'.map Fm.f=putN (K.ns.map Fm.f) (K.ns[m]).f→FrC (netS o) col col' W W' → W'.cell? ⟨x,0,none⟩=some (.int .i32 1)∧W'.frozen? ⟨x,0,none⟩=false∧PrgAt (W'.setCell ⟨x,0,none⟩ (.int .i32 0)) col' o x (K.setN v' ns') (c.put (c.frm m))∧FrC (ofOwn o) col col' w (W'.setCell ⟨x,0,none⟩ (.int .i32 0))):=fun W W' v' ns' col' hb h1 hns h2=>by
   obtain ⟨u0,u1,u2,u3⟩:=PrB.unlock (K:=K.setN v' ns') h1 h.is.lk
   refine ⟨u0,u1,⟨u2,?_,h.n⟩,((k2.trans (zdJ hb)).trans (h2.mono zgS)).trans (u3.mono zhh)⟩
   rw [zjA,hfm]
   exact h.is.setN (by rw [hns,h.is.nets])
  obtain ⟨adv,cpv,hvv,-⟩:=h.at_.netd _ (List.getElem_mem hmn)
  clear k1 k2 h hok hfm
  unfold Fm.cells at HFR
  generalize K.ns[m]=fm at *
  obtain ⟨⟨f0,f1,f2,f3,fd⟩,fv⟩:=fm
  simp only at hvv HFR HLO HEND
  subst hvv
  go_enter_defers Tryz.func84,Tryz.ntmps84
  go_wp2_with (go_at_call 44;refine (lock_free zgD ⟨x,0,none⟩ _ hcl.c0 hcl.f0).mono ?_;rintro e w' ⟨rfl,rfl⟩)
  refine HFR.out.mono ?_
  rintro e w2 ⟨rfl,hb2⟩
  go_wp2_with fail
  refine (HLO.out _ (zaO hb2 _)).mono ?_
  rintro e w3 ⟨rfl,v',ns',col',h3,hns,f3'⟩
  obtain ⟨u0,u1,hK',hF'⟩:=HEND.out _ _ v' ns' col' (zaO hb2 _) h3.out hns.out f3'.out
  have HK' := zeT hK'
  have HF' := zeT hF'
  clear hK' hF' h3 f3' hns HEND HLO HFR hb2
  go_wp2
  refine leaves_cons (f:=45) (args:=#[.pointer (some ⟨x,0,none⟩)]) (by simp) (by simp [go_sem]) ?_
  refine (unlock_deferred zgD ⟨x,0,none⟩ .returning _ u0 u1).mono ?_
  rintro e u' w'' ⟨rfl,rfl,rfl⟩
  exact ⟨_,results_tmp rfl _ _ _,rfl,_,_,HK',HF'⟩
 ·obtain ⟨e1,-,e2,-⟩:=zgP hk
  rw [e1,e2]
  obtain ⟨ad,cap,hv,_⟩:=h.at_.net.form
  have c42:=h.at_.cl.2.2.2.2.2.1
  rw [hv] at c42
  exact (ziU x K.R _ _ k w hcl ad K.ns.length cap c42 (by rw [h.lenN];exact hk)).mono fun e w' ⟨h1,h2⟩=>⟨h1,K,col,h.same h2,zdJ h2⟩
set_option maxRecDepth 100000 in
theorem zi3 {w:World}{col:Col}{o x N:Nat}{U:List At}{K:PrK}{c:Clu}(h:PrgAt w col o x K c)(hok:c.ok U N)(hL:Lim U N)(k:Int) :
  Calls Tryz.prog 91 #[.pointer (some ⟨x,0,none⟩),.int .i64 k] w fun e w' => ∃ v,e = .returned (.tuple #[.agg #[.int .i64 (c.frmAt k).kind,.int .i64 (c.frmAt k).src,.int .i64 (c.frmAt k).dst,.int .i64 (c.frmAt k).upto,v],.int .i64 (c.netErr k)])∧w'.ownsRow w.heap.size 76 6 v (c.frmAt k).d.length (flat (c.frmAt k).d)∧Below w.heap.size w w' := by
 have hcl:=h.at_.clAt h.is.lk
 by_cases hk:0≤k∧k<c.net.length
 ·obtain ⟨m,rfl⟩:∃ m:Nat,k=m:=⟨k.toNat,by omega⟩
  have hm:m<c.net.length:=by omega
  obtain ⟨e1,-,-,-⟩:=zgQ hm
  have hmn:m<K.ns.length:=by rw [h.lenN];exact hm
  have hfm:c.frmAt m=(K.ns[m]).f:=by
   have hh:c.has m=true:=by unfold Clu.has;exact decide_eq_true (by omega)
   simp [Clu.frmAt,hh,Clu.frm,← h.is.nets,hmn]
  have hfl:(K.ns[m]).f.d.length≤131072:=by
   have hin:(K.ns[m]).f∈c.net:=by rw [← h.is.nets];exact List.mem_map_of_mem (List.getElem_mem hmn)
   have:=hok.net _ hin
   exact Nat.le_trans (this.told.length this.sub) hL.2
  rw [e1,hfm]
  have h0:=hcl
  have h1:=h.same (zaO (Below.refl _ w) (.cells zFrm.toArray 110))
  have hcl2:ClAt (w.alloc (.cells zFrm.toArray 110)) x K.R K.Ds.length K.Ds.length:=h1.at_.clAt h1.is.lk
  obtain ⟨k1,k2⟩:=h1.locked
  have HFR:=Hid.mk (zdQ (k:=m) k1 hmn)
  have HH:=Hid.mk (k1.netd _ (List.getElem_mem hmn)).slice
  obtain ⟨adv,cpv,hvv,-⟩:=h.at_.netd _ (List.getElem_mem hmn)
  have hlt:=h0.lt
  clear k1 k2 h hok hfm h1 e1
  unfold Fm.cells at HFR
  generalize K.ns[m]=fm at *
  obtain ⟨⟨f0,f1,f2,f3,fd⟩,fv⟩:=fm
  simp only at hvv HFR HH hfl ⊢
  subst hvv
  go_enter_defers Tryz.func91,Tryz.ntmps91
  go_wp2_with (go_at_call 44;refine (lock_free zgD ⟨x,0,none⟩ _ hcl2.c0 hcl2.f0).mono ?_;rintro e wl ⟨rfl,hwl⟩;have HL:=Hid.mk (zga h0 hwl);rw [show (w.alloc (.cells zFrm.toArray 110)).setCell ⟨x,0,none⟩ (.int .i32 1)=wl from hwl.symm] at HFR HH;clear hwl)
  refine HFR.out.mono ?_
  rintro e w2 ⟨rfl,hb2⟩
  have HSL:=Hid.mk (HH.out.below hb2)
  have hr1:=(hb2.block _ (zaY HL.out.blk)).trans HL.out.blk
  have hq2:w.heap.size<w2.heap.size:=zaY hr1
  have HB2:=Hid.mk hb2
  clear hb2
  go_wp2_with fail
  refine (zbW _ fd _ (HSL.out.below (zaO (Below.refl _ _) _)) (by omega)).mono ?_
  rintro e w3 ⟨v',rfl,ho3,hb3⟩
  obtain ⟨ad3,cp3,hv3⟩:=zh1 ho3
  subst hv3
  have hfb:=(hb3.block w2.heap.size (by simp)).trans (heap_alloc_new w2 _)
  have hrb:=(hb3.block w.heap.size (by simp;omega)).trans ((((Below.refl _ w2).alloc (Nat.le_refl _) _).block _ hq2).trans hr1)
  obtain ⟨g0,g1,g2,g3,g4⟩:=zdl hfb
  have gf4:=zaZ hfb 4
  have hq3:w2.heap.size<w3.heap.size:=zaY hfb
  have r0:w3.cell? ⟨w.heap.size,0,none⟩=some (.int .i64 0):=zaX hrb 0
  have r1:w3.cell? ⟨w.heap.size,1,none⟩=some (.int .i64 0):=zaX hrb 1
  have r2:w3.cell? ⟨w.heap.size,2,none⟩=some (.int .i64 0):=zaX hrb 2
  have r3:w3.cell? ⟨w.heap.size,3,none⟩=some (.int .i64 0):=zaX hrb 3
  have r4:w3.cell? ⟨w.heap.size,4,none⟩=some (.slice none 0 0):=zaX hrb 4
  have rf:=zaZ hrb
  have hne:w.heap.size ≠ w2.heap.size:=by omega
  have hne' : w2.heap.size ≠ w.heap.size:=by omega
  have hql:w.heap.size<w3.heap.size:=by omega
  have HRB:=Hid.mk hrb
  have HB3:=Hid.mk hb3
  have HO3:=Hid.mk ho3
  clear hb3 hfb hrb hr1 ho3 HSL HH HFR
  go_wp2
  clear r0 r1 r2 r3 r4 rf g0 g1 g2 g3 g4 gf4
  have hbs:Below wl.heap.size wl (w3.setCell ⟨w2.heap.size,4,none⟩ (.slice ad3 fd.length cp3)):=((HB2.out.alloc HB2.out.size _).trans (HB3.out.mono (by simp;have:=HB2.out.size;omega))).setCell (p:=⟨w2.heap.size,4,none⟩) HB2.out.size _
  have hrb2:(w3.setCell ⟨w2.heap.size,4,none⟩ (.slice ad3 fd.length cp3)).heap[w.heap.size]? = some (.cells zFrm.toArray 110 (0,0)):=((zet w3 ⟨w2.heap.size,4,none⟩ _).block _ hql (fun e=>hne (Option.some.inj e))).trans HRB.out
  have HO:=Hid.mk (zhV (l' := [.int .i64 f0,.int .i64 f1,.int .i64 f2,.int .i64 f3,.slice ad3 fd.length cp3]) hrb2 rfl)
  have hs1:w.heap.size≤wl.heap.size:=by rw [HL.out.size];omega
  have HBL:Hid (Below w.heap.size wl ((w3.setCell ⟨w2.heap.size,4,none⟩ (.slice ad3 fd.length cp3)).setCells w.heap.size 0 [.int .i64 f0,.int .i64 f1,.int .i64 f2,.int .i64 f3,.slice ad3 fd.length cp3])):=zaS (hbs.mono hs1) (by simp;omega)
  show Leaves _ _ _ _ _ _ _
  refine leaves_cons (f:=45) (args:=#[.pointer (some ⟨x,0,none⟩)]) (by simp) (by simp [go_sem]) ?_
  obtain ⟨u0,u1,u2,u3⟩:=HL.out.done (w2:=(w3.setCell ⟨w2.heap.size,4,none⟩ (.slice ad3 fd.length cp3)).setCells w.heap.size 0 [.int .i64 f0,.int .i64 f1,.int .i64 f2,.int .i64 f3,.slice ad3 fd.length cp3]) HBL.out hlt (zaY HO.out)
  have HOW:Hid ((((w3.setCell ⟨w2.heap.size,4,none⟩ (.slice ad3 fd.length cp3)).setCells w.heap.size 0 [.int .i64 f0,.int .i64 f1,.int .i64 f2,.int .i64 f3,.slice ad3 fd.length cp3]).setCell ⟨x,0,none⟩ (.int .i32 0)).ownsRow w.heap.size 76 6 (.slice ad3 fd.length cp3) fd.length (flat fd)):=by
   have hz:(w2.alloc (.cells #[.int .i64 f0,.int .i64 f1,.int .i64 f2,.int .i64 f3,.slice adv fd.length cpv] 110)).heap.size=w2.heap.size+1:=by simp
   have h0:=HO3.out
   rw [hz] at h0
   exact zic (zie (zie (zie (zie (zie (zie (zie h0 (by omega)) (by omega)) (by omega)) (by omega)) (by omega)) (by omega)) (by omega)) (by omega)
  refine (unlock_deferred zgD ⟨x,0,none⟩ .returning _ u0 u1).mono ?_
  rintro e u' w'' ⟨rfl,rfl,rfl⟩
  exact ⟨.tuple #[.agg #[.int .i64 f0,.int .i64 f1,.int .i64 f2,.int .i64 f3,.slice ad3 fd.length cp3],.int .i64 0],zkK Tryz.results91 _ rfl rfl (run_loadVar_row _ _ _ _ _ _ _ (u3.trans HO.out) Tryz.underlying110 rfl ze9),_,rfl,HOW.out,u2⟩
 ·obtain ⟨e1,-,-,-⟩:=zgP hk
  have hf:c.frmAt k=⟨0,0,0,0,[]⟩:=by
   have hh:c.has k=false:=by unfold Clu.has;exact decide_eq_false hk
   simp [Clu.frmAt,hh]
  rw [e1,hf]
  obtain ⟨ad,cap,hv,_⟩:=h.at_.net.form
  have c42:=h.at_.cl.2.2.2.2.2.1
  rw [hv] at c42
  exact (zi4 x K.R _ _ k w hcl ad K.ns.length cap c42 (by rw [h.lenN];exact hk)).mono fun e w' ⟨h1,h2⟩=>⟨.slice none 0 0,h1,⟨rfl,.inl ⟨rfl,rfl⟩⟩,h2⟩
end Go.Proofs.YtahdlejgjcjeoabGreatDoor
