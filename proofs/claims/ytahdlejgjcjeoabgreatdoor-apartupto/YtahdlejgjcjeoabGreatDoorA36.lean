/- Walk of the document's news. -/
import Derived.Test.YtahdlejgjcjeoabGreatDoorA32
import Derived.Test.YtahdlejgjcjeoabGreatDoorA33
import Derived.Test.YtahdlejgjcjeoabGreatDoorA35
import Derived.Test.YtahdlejgjcjeoabGreatDoorA09
import Derived.Test.YtahdlejgjcjeoabGreatDoorA14
import Derived.Test.YtahdlejgjcjeoabGreatDoorA07
import Derived.Test.YtahdlejgjcjeoabGreatDoorA12
namespace Go.Proofs.YtahdlejgjcjeoabGreatDoor
set_option maxHeartbeats 8000000
open Go.RowKit
def Gm2 (Z:Snap)(w:World)(W x y B M:Nat)(cR cP:Clu):Prop:=∃ col KR KP,GSt Z w col W x y B M KR KP cR cP
def Gm (Z:Snap)(w:World)(W x y B M:Nat)(c:Clu):Prop:=Gm2 Z w W x y B M c c
section
variable {Z:Snap} {w w' : World} {W x y B M M' N:Nat} {U:List At} {c cR cP:Clu}
theorem Gm2.mono (h:Gm2 Z w W x y B M cR cP)(hM:M≤M'):Gm2 Z w W x y B M' cR cP:=by
 obtain ⟨col,KR,KP,g⟩:=h
 obtain ⟨va,es,hk⟩:=g.bk
 exact ⟨col,KR,KP,g.old,g.tab,g.ref,g.prg,g.wb,g.cW,va,es,hk.bk,fun f hf=>Nat.le_trans (hk.len f hf) hM,hk.cB,hk.cv,hk.ce⟩
theorem Gm.mono (h:Gm Z w W x y B M c)(hM:M≤M'):Gm Z w W x y B M' c:=Gm2.mono h hM
theorem Gm2.same (h:Gm2 Z w W x y B M cR cP)(hb:Below w.heap.size w w'):Gm2 Z w' W x y B M cR cP:=by
 obtain ⟨col,KR,KP,g⟩:=h
 exact ⟨col,KR,KP,g.same hb⟩
theorem Gm.same (h:Gm Z w W x y B M c)(hb:Below w.heap.size w w'):Gm Z w' W x y B M c:=Gm2.same h hb
theorem Gm2.cell0 (h:Gm2 Z w W x y B M cR cP):w.cell? ⟨W,0,none⟩=some (.pointer (some ⟨x,0,none⟩)):=by
 obtain ⟨col,KR,KP,g⟩:=h
 exact (zaX g.wb 0).trans rfl
theorem Gm2.cell1 (h:Gm2 Z w W x y B M cR cP):w.cell? ⟨W,1,none⟩=some (.pointer (some ⟨y,0,none⟩)):=by
 obtain ⟨col,KR,KP,g⟩:=h
 exact (zaX g.wb 1).trans rfl
theorem Gm2.cell2 (h:Gm2 Z w W x y B M cR cP):w.cell? ⟨W,2,none⟩=some (.pointer (some ⟨B,0,none⟩)):=by
 obtain ⟨col,KR,KP,g⟩:=h
 exact (zaX g.wb 2).trans rfl
theorem Gm.cell0 (h:Gm Z w W x y B M c):w.cell? ⟨W,0,none⟩=some (.pointer (some ⟨x,0,none⟩)):=Gm2.cell0 h
theorem Gm.cell1 (h:Gm Z w W x y B M c):w.cell? ⟨W,1,none⟩=some (.pointer (some ⟨y,0,none⟩)):=Gm2.cell1 h
theorem Gm.cell2 (h:Gm Z w W x y B M c):w.cell? ⟨W,2,none⟩=some (.pointer (some ⟨B,0,none⟩)):=Gm2.cell2 h
theorem Gm.lState (h:Gm Z w W x y B M c)(hok:c.ok U N)(hL:Lim U N)(hM:M≤15000000)(r:Int) :
  Calls Tryz.prog 86 #[.pointer (some ⟨W,0,none⟩),.int .i64 r] w fun e w' => e = .returned (.bool true)∧Gm Z w' W x y B (M+4) c:=by
 obtain ⟨col,KR,KP,g⟩:=h
 exact (g.lState hok hL hM r).mono fun e w' ⟨h1,col',h2⟩=>⟨h1,col',KR,KP,h2⟩
theorem Gm.lBuffer (h:Gm Z w W x y B M c)(hok:c.ok U N)(hL:Lim U N)(hM:M≤15000000)(r:Int) :
  Calls Tryz.prog 88 #[.pointer (some ⟨W,0,none⟩),.int .i64 r] w fun e w' => e = .returned (.bool true)∧Gm Z w' W x y B (M+36) c:=by
 obtain ⟨col,KR,KP,g⟩:=h
 exact (g.lBuffer hok hL hM r).mono fun e w' ⟨h1,col',h2⟩=>⟨h1,col',KR,KP,h2⟩
theorem Gm.lLog (h:Gm Z w W x y B M c)(hok:c.ok U N)(hL:Lim U N)(r:Int) :
  Calls Tryz.prog 89 #[.pointer (some ⟨W,0,none⟩),.int .i64 r] w fun e w' => e = .returned (.bool true)∧Gm Z w' W x y B M c:=by
 obtain ⟨col,KR,KP,g⟩:=h
 exact (g.lLog hok hL r).mono fun e w' ⟨h1,h2⟩=>⟨h1,col,KR,KP,h2⟩
theorem Gm.lReplica (h:Gm Z w W x y B M c)(hok:c.ok U N)(hL:Lim U N)(hM:M≤15000000)(r:Int) :
  Calls Tryz.prog 90 #[.pointer (some ⟨W,0,none⟩),.int .i64 r] w fun e w' => e = .returned (.bool true)∧Gm Z w' W x y B (M+4) c:=by
 obtain ⟨col,KR,KP,g⟩:=h
 exact (g.lReplica hok hL hM r).mono fun e w' ⟨h1,col',h2⟩=>⟨h1,col',KR,KP,h2⟩
theorem Gm.lRead (h:Gm Z w W x y B M c)(hok:c.ok U N)(hL:Lim U N)(hM:M≤15000000)(r kind:Int)(key:ByteArray)(hk:key.size≤1099511627776) :
  Calls Tryz.prog 87 #[.pointer (some ⟨W,0,none⟩),.int .i64 r,.int .i64 kind,.string key] w fun e w' => e = .returned (.bool true)∧Gm Z w' W x y B (M+4) c:=by
 obtain ⟨col,KR,KP,g⟩:=h
 exact (g.lRead hok hL hM r kind key hk).mono fun e w' ⟨h1,col',h2⟩=>⟨h1,col',KR,KP,h2⟩
theorem Gm.lFlight (h:Gm Z w W x y B M c) :
  Calls Tryz.prog 41 #[.pointer (some ⟨W,0,none⟩)] w fun e w' => e = .returned (.bool true)∧Gm Z w' W x y B M c:=by
 obtain ⟨col,KR,KP,g⟩:=h
 exact g.lFlight.mono fun e w' ⟨h1,h2⟩=>⟨h1,col,KR,KP,h2⟩
theorem Gm.looks (h:Gm Z w W x y B M c)(hM:M≤15000000) :
  Calls Tryz.prog 8 #[.pointer (some ⟨B,0,none⟩)] w fun e w' => e = .returned (.bool true)∧Below w.heap.size w w' := by
 obtain ⟨col,KR,KP,g⟩:=h
 exact g.looks hM
theorem Gm.dFlight (h:Gm Z w W x y B M c) :
  Calls Tryz.prog 38 #[.pointer (some ⟨y,0,none⟩)] w fun e w' => e = .returned (.int .i64 c.net.length)∧w' = w:=by
 obtain ⟨col,KR,KP,g⟩:=h
 exact zj8 g.ref
theorem Gm.yR (h:Gm Z w W x y B M c):∃ ad cp,w.cell? ⟨y,5,none⟩=some (.slice ad c.reps.length cp):=by
 obtain ⟨col,KR,KP,g⟩:=h
 obtain ⟨ad,cp,hv⟩:=zh1 g.ref.rows.own
 rw [g.ref.len] at hv
 exact ⟨ad,cp,(zaX g.ref.blk 5).trans (by rw [hv];rfl)⟩
theorem Gm.pStart (h:Gm Z w W x y B M c)(hok:c.ok U N)(hL:Lim U N)(r:Int) :
  Calls Tryz.prog 28 #[.pointer (some ⟨x,0,none⟩),.int .i64 r] w fun e w' => e = .returned (.int .i64 (c.startErr r))∧Gm2 Z w' W x y B M c (c.start r):=by
 obtain ⟨col,KR,KP,g⟩:=h
 exact (zjk g.prg (by decide) g.tab hok hL r).mono fun e w' ⟨h1,K',col',h2,h3⟩=>⟨h1,col',KR,K',g.byPrg h3.out h2.out⟩
theorem Gm2.dStart (h:Gm2 Z w W x y B M c cP)(hok:c.ok U N)(hL:Lim U N)(r:Int) :
  Calls Tryz.prog 29 #[.pointer (some ⟨y,0,none⟩),.int .i64 r] w fun e w' => e = .returned (.int .i64 (c.startErr r))∧Gm2 Z w' W x y B M (c.start r) cP:=by
 obtain ⟨col,KR,KP,g⟩:=h
 exact (zkm g.ref hok hL r).mono fun e w' ⟨h1,K',col',h2,h3⟩=>⟨h1,col',K',KP,g.byRef h3.out h2.out⟩
theorem zlY (c:Clu)(r:Int):(c.start r).reps.length=c.reps.length:=by
 unfold Clu.start
 split
 ·simp [Clu.setRep]
 ·rfl
set_option maxRecDepth 100000 in
theorem Gm.lWhole (h:Gm Z w W x y B M c)(hok:c.ok U N)(hL:Lim U N)(hM:M≤10000000)(r:Int) :
  Calls Tryz.prog 40 #[.pointer (some ⟨W,0,none⟩),.int .i64 r] w fun e w' => e = .returned (.bool true)∧Gm Z w' W x y B (M+72) c:=by
 have HK:=Hid.mk hok
 have HLM:=Hid.mk hL
 have HN:=Hid.mk h
 clear h hok hL
 go_enter Tryz.func40,Tryz.ntmps40
 go_wp2_with fail
 refine (HN.out.lState HK.out HLM.out (by omega) r).mono ?_
 rintro e w1 ⟨rfl,h1⟩
 have HN1:=Hid.mk h1
 clear h1
 go_wp2_with fail
 refine (HN1.out.lBuffer HK.out HLM.out (by omega) r).mono ?_
 rintro e w2 ⟨rfl,h2⟩
 have HN2:=Hid.mk h2
 clear h2
 go_wp2_with fail
 refine (HN2.out.lLog HK.out HLM.out r).mono ?_
 rintro e w3 ⟨rfl,h3⟩
 have HN3:=Hid.mk h3
 clear h3
 go_wp2_with fail
 refine (HN3.out.lReplica HK.out HLM.out (by omega) r).mono ?_
 rintro e w4 ⟨rfl,h4⟩
 have HN4:=Hid.mk h4
 clear h4 HN HN1 HN2 HN3
 go_wp2
 go_loopw [9] (fun s wr=>∃ k:Nat,k≤7∧s = .int .i64 k∧Hid (Gm Z wr W x y B (M+44+4*k) c)) (fun s _=>7 - (intOf s).toNat)
 case atStart=>exact ⟨0,by omega,rfl,HN4⟩
 case round =>
  clear HN4
  obtain ⟨k,hk,rfl,hn⟩:=hrel
  by_cases hl:k<7
  ·have q1:(k:Int)≤6:=by omega
   go_wp2_with fail
   refine (hn.out.lRead HK.out HLM.out (by omega) r k _ (by decide)).mono ?_
   rintro e w5 ⟨rfl,h5⟩
   have HN5:=Hid.mk h5
   clear h5 hn
   go_wp2
   exact ⟨⟨k+1,by omega,by go_num,HN5.out.mono (by omega)⟩,by simp [intOf];omega⟩
  ·have q1:¬ (k:Int)≤6:=by omega
   go_wp2
   go_ret
   exact ⟨rfl,hn.out.mono (by omega)⟩
end
section
variable {Z:Snap} {w w' : World} {W x y B M M' N:Nat} {U:List At} {c:Clu}
set_option maxRecDepth 100000 in
theorem Gm.lAsks (h:Gm Z w W x y B M c)(hok:c.ok U N)(hL:Lim U N)(hM:M≤15000000)(a:ActV)(hk:a.key.size≤1099511627776) :
  Calls Tryz.prog 35 #[.pointer (some ⟨W,0,none⟩),a.val] w fun e w' => e = .returned (.bool true)∧Gm Z w' W x y B (M+36) c:=by
 obtain ⟨k,r,q,n,⟨ty,ky,sd,el,on⟩,key⟩:=a
 have hA:∀ ob,Gm Z (w.alloc ob) W x y B M c:=fun ob=>h.same (zaO (Below.refl _ w) ob)
 have HST:=Hid.mk (fun ob=>((hA ob).lState hok hL hM r).mono fun e w' ⟨h1,h2⟩=>(⟨h1,h2.mono (by omega)⟩:e=Ending.returned (.bool true)∧Gm Z w' W x y B (M+36) c))
 have HRD:=Hid.mk (fun ob=>((hA ob).lRead hok hL hM r q key hk).mono fun e w' ⟨h1,h2⟩=>(⟨h1,h2.mono (by omega)⟩:e=Ending.returned (.bool true)∧Gm Z w' W x y B (M+36) c))
 have HBF:=Hid.mk (fun ob=>((hA ob).lBuffer hok hL hM r))
 have HLG:=Hid.mk (fun ob=>((hA ob).lLog hok hL r).mono fun e w' ⟨h1,h2⟩=>(⟨h1,h2.mono (by omega)⟩:e=Ending.returned (.bool true)∧Gm Z w' W x y B (M+36) c))
 have HRP:=Hid.mk (fun ob=>((hA ob).lReplica hok hL hM r).mono fun e w' ⟨h1,h2⟩=>(⟨h1,h2.mono (by omega)⟩:e=Ending.returned (.bool true)∧Gm Z w' W x y B (M+36) c))
 have HFL:=Hid.mk (fun ob=>((hA ob).lFlight).mono fun e w' ⟨h1,h2⟩=>(⟨h1,h2.mono (by omega)⟩:e=Ending.returned (.bool true)∧Gm Z w' W x y B (M+36) c))
 clear hA h hok hL
 show Calls Tryz.prog 35 #[.pointer (some ⟨W,0,none⟩),.agg #[.int .i64 k,.int .i64 r,.int .i64 q,.int .i64 n,.int .i64 ty,.string ky,.int .i64 sd,.string el,.int .i64 on,.string key]] w _
 by_cases k13:k=13
 ·subst k13
  go_enter Tryz.func35,Tryz.ntmps35
  go_wp2_with fail
  refine (HST.out _).mono ?_
  rintro e w1 ⟨rfl,h1⟩
  have HR:=Hid.mk h1
  clear h1 HST HRD HBF HLG HRP HFL
  go_wp2
  go_ret
  exact ⟨rfl,HR.out⟩
 by_cases k14:k=14
 ·subst k14
  go_enter Tryz.func35,Tryz.ntmps35
  go_wp2_with fail
  refine (HRD.out _).mono ?_
  rintro e w1 ⟨rfl,h1⟩
  have HR:=Hid.mk h1
  clear h1 HST HRD HBF HLG HRP HFL
  go_wp2
  go_ret
  exact ⟨rfl,HR.out⟩
 by_cases k15:k=15
 ·subst k15
  go_enter Tryz.func35,Tryz.ntmps35
  go_wp2_with fail
  refine (HBF.out _).mono ?_
  rintro e w1 ⟨rfl,h1⟩
  have HR:=Hid.mk h1
  clear h1 HST HRD HBF HLG HRP HFL
  go_wp2
  go_ret
  exact ⟨rfl,HR.out⟩
 by_cases k16:k=16
 ·subst k16
  go_enter Tryz.func35,Tryz.ntmps35
  go_wp2_with fail
  refine (HLG.out _).mono ?_
  rintro e w1 ⟨rfl,h1⟩
  have HR:=Hid.mk h1
  clear h1 HST HRD HBF HLG HRP HFL
  go_wp2
  go_ret
  exact ⟨rfl,HR.out⟩
 by_cases k17:k=17
 ·subst k17
  go_enter Tryz.func35,Tryz.ntmps35
  go_wp2_with fail
  refine (HRP.out _).mono ?_
  rintro e w1 ⟨rfl,h1⟩
  have HR:=Hid.mk h1
  clear h1 HST HRD HBF HLG HRP HFL
  go_wp2
  go_ret
  exact ⟨rfl,HR.out⟩
 ·go_enter Tryz.func35,Tryz.ntmps35
  go_wp2_with fail
  refine (HFL.out _).mono ?_
  rintro e w1 ⟨rfl,h1⟩
  have HR:=Hid.mk h1
  clear h1 HST HRD HBF HLG HRP HFL
  go_wp2
  go_ret
  exact ⟨rfl,HR.out⟩
end
theorem zmJ {a n:Int}(h0:0≤a)(hn:0<n):0≤a.tmod n∧a.tmod n<n :=
 ⟨Int.tmod_nonneg n h0,Int.tmod_lt_of_pos a hn⟩
set_option maxRecDepth 100000 in
theorem ziv (c n:Int)(w:World)(h0 : -9223372036854775808≤c)(h1:c≤9223372036854775807)(hn:0<n)(hn1:n≤2147483647) :
  Calls Tryz.prog 43 #[.int .i64 c,.int .i64 n] w fun e w' => ∃ r,e = .returned (.int .i64 r)∧(0≤r∧r<n)∧w' = w:=by
 by_cases hc:c<0
 ·have ha:0 ≤ -(c+1):=by omega
  have hm:=zmJ ha hn
  rw [Int.neg_tmod] at hm
  go_enter Tryz.func43,Tryz.ntmps43
  go_wp2
  go_ret
  exact ⟨_,rfl,hm,rfl⟩
 ·have hm:0≤c % n∧c % n<n:=⟨Int.emod_nonneg c (by omega),Int.emod_lt_of_pos c hn⟩
  go_enter Tryz.func43,Tryz.ntmps43
  go_wp2
  go_ret
  exact ⟨_,rfl,hm,rfl⟩
theorem zc0 {α:Type}(l:List α)(i:Nat)(h:i<l.length):(l.take (i+1)).eraseIdx i=(l.take i).eraseIdx i:=by
 rw [List.take_succ_eq_append_getElem h,List.eraseIdx_append_of_length_le (by simp;omega)]
 rw [show i - (l.take i).length=0 by simp;omega,List.eraseIdx_of_length_le (l:=l.take i) (by rw [List.length_take];omega)]
 simp
theorem zcZ {α β:Type}(f:α→β):∀ (l:List α) (k:Nat),(l.map f).eraseIdx k=(l.eraseIdx k).map f
 | [],_=>rfl
 | _ :: _,0=>rfl
 | a :: l,k+1=>by simp [zcZ f l k]
theorem zc1 {α:Type}(l:List α)(k i:Nat)(h:i<l.length)(hne:i ≠ k):(l.take (i+1)).eraseIdx k=(l.take i).eraseIdx k ++ [l[i]]:=by
 rw [List.take_succ_eq_append_getElem h]
 by_cases hk:k<i
 ·rw [List.eraseIdx_append_of_lt_length (by simp;omega)]
 ·rw [List.eraseIdx_of_length_le (by simp;omega),List.eraseIdx_of_length_le (by simp;omega)]
structure OutInv (w wr:World)(F:Array Value)(rest:Value)(ns:List Fm):Prop where
 res:wr.heap[w.heap.size]? = some (.cells #[.int .i64 0,.int .i64 0,.int .i64 0,.int .i64 0,.slice none 0 0] 162 (0,0))
 fv:wr.heap[w.heap.size+1]? = some (.cells F 162 (0,0))
 own:wr.ownsRow (w.heap.size+2) 162 5 rest ns.length (ns.flatMap Fm.cells)
 bel:Below w.heap.size w wr
 size:w.heap.size+2≤wr.heap.size
theorem OutInv.more {w wr w3:World}{F:Array Value}{rest v3:Value}{ns:List Fm}{m:Fm}{tmp:Obj}(h:OutInv w wr F rest ns)(hg:(wr.alloc tmp).grownBy w3 rest.ownBlock)(ho:w3.ownsRow (w.heap.size+2) 162 5 v3 (ns.length+1) (ns.flatMap Fm.cells ++ m.cells)):OutInv w w3 F v3 (ns ++ [m]):=by
 have hb:∀ q,q<w.heap.size+2→some q ≠ rest.ownBlock:=fun q hq e=>by
  have:=zh4 h.own _ e.symm
  omega
 have hsz:=h.size
 have hg' := zev (World.grownBy_alloc wr tmp rest.ownBlock) hg
 refine ⟨(hg'.block _ (by omega) (hb _ (by omega))).trans h.res,(hg'.block _ (by omega) (hb _ (by omega))).trans h.fv,?_,h.bel.grown hg' (by omega) (fun q hq=>by have:=zh4 h.own q hq;omega),Nat.le_trans hsz hg'.size⟩
 rw [List.length_append,List.flatMap_append]
 simpa using ho
def set5 (w:World)(q:Nat)(a b c d e:Value):World:=((((w.setCell ⟨q,0,none⟩ a).setCell ⟨q,1,none⟩ b).setCell ⟨q,2,none⟩ c).setCell ⟨q,3,none⟩ d).setCell ⟨q,4,none⟩ e
theorem OutInv.done {w wr:World}{col:Col}{o x:Nat}{K:RefC}{c:Clu}{F:Array Value}{rest v:Value}{ns:List Fm}{d:List At}(hi:OutInv w wr F rest ns)(h:RefAt w col o x K c)(hs:∀ f∈ns,f∈K.ns)(hd:Held w col (o,1) v d)(a b e f:Value) :
  let W:=set5 (wr.setCell ⟨x,6,none⟩ rest) w.heap.size a b e f v
  W.heap[w.heap.size]? = some (.cells #[a,b,e,f,v] 162 (0,0))∧RefAt W (paint col w.heap.size (o,3)) o x { K with vN:=rest,ns:=ns } { c with net:=ns.map Fm.f }∧Held W (paint col w.heap.size (o,3)) (o,1) v d∧FrC (ofOwner o) col (paint col w.heap.size (o,3)) w W:=by
 intro W
 have hx:=zaY h.blk
 have hsz:=hi.size
 have f1:FrC (fun κ=>κ=(o,3)∨κ=(o,0)) col (paint col w.heap.size (o,3)) w wr:=zdH hi.bel (o,3)
 have hxw:wr.heap[x]? = _:=(hi.bel.block x hx).trans h.blk
 have hcx:paint col w.heap.size (o,3) x=(o,0):=by rw [zin col _ hx];exact h.cx
 have hcq:paint col w.heap.size (o,3) w.heap.size=(o,3):=zim col _ (Nat.le_refl _)
 have f2:FrC (fun κ=>κ=(o,3)∨κ=(o,0)) col (paint col w.heap.size (o,3)) w (wr.setCell ⟨x,6,none⟩ rest):=f1.trans (zdK (S:=fun κ=>κ=(o,3)∨κ=(o,0)) 6 _ (.inr hcx))
 have st:∀ (V:World) (k:Nat) (u:Value),FrC (fun κ=>κ=(o,3)∨κ=(o,0)) (paint col w.heap.size (o,3)) (paint col w.heap.size (o,3)) V (V.setCell ⟨w.heap.size,k,none⟩ u):=fun V k u=>zdK (S:=fun κ=>κ=(o,3)∨κ=(o,0)) k u (.inl hcq)
 have f3:FrC (fun κ=>κ=(o,3)∨κ=(o,0)) col (paint col w.heap.size (o,3)) w W:=((((f2.trans (st _ _ _)).trans (st _ _ _)).trans (st _ _ _)).trans (st _ _ _)).trans (st _ _ _)
 have hne:∀ (V:World) (k:Nat) (u:Value),(V.setCell ⟨w.heap.size,k,none⟩ u).heap[x]? = V.heap[x]? := fun V k u=>Below.heap_setCell _ _ _ _ (by simp only;omega)
 have hxb:W.heap[x]? = some (.cells #[.int .i64 c.reps.length,.slice none 0 0,.bool c.bp,.bool c.rr,.int .i64 c.room,K.vR,rest] 93 (0,0)):=by
  refine (hne _ _ _).trans ((hne _ _ _).trans ((hne _ _ _).trans ((hne _ _ _).trans ((hne _ _ _).trans ?_))))
  exact zeJ (o:=6) hxw rest
 have hres:(wr.setCell ⟨x,6,none⟩ rest).heap[w.heap.size]? = _:=(Below.heap_setCell _ _ _ _ (by simp only;omega)).trans hi.res
 have hown:W.ownsRow (w.heap.size+2) 162 5 rest ns.length (ns.flatMap Fm.cells):=zie (zie (zie (zie (zie (zie hi.own (by omega)) (by omega)) (by omega)) (by omega)) (by omega)) (by omega)
 refine ⟨zeJ (o:=4) (zeJ (o:=3) (zeJ (o:=2) (zeJ (o:=1) (zeJ (o:=0) hres a) b) e) f) v,?_,hd.kept f3 (by simp),f3.mono zgT⟩
 refine h.setNet f3 hxb ⟨zic hown (Nat.zero_le _),fun q hq=>zim col _ (by have:=zh4 hown q hq;omega)⟩ (fun f hf=>(h.netd f (hs f hf)).kept f3 (by simp))
set_option maxRecDepth 100000 in
theorem zkd {w:World}{col:Col}{o x k:Nat}{K:RefC}{c:Clu}(h:RefAt w col o x K c)(hl:c.net.length≤200)(hk:k<c.net.length) :
  Calls Tryz.prog 124 #[.pointer (some ⟨x,0,none⟩),.int .i64 k] w fun e w' => ∃ v,e = .returned (.agg #[.int .i64 (c.frm k).kind,.int .i64 (c.frm k).src,.int .i64 (c.frm k).dst,.int .i64 (c.frm k).upto,v])∧∃ K' col',Hid (RefAt w' col' o x K' (c.out k))∧Hid (Held w' col' (o,1) v (c.frm k).d)∧Hid (FrC (ofOwner o) col col' w w'):=by
 obtain ⟨g,cap,v,hv,hc,hh1,hh2,e0,e1,e2,e3,e4⟩:=h.frame hk
 have c6:=h.cells.2.2.2.2.2.2.1
 have f6:=h.cells.2.2.2.2.2.2.2 6
 rw [hv] at c6
 have hx:=zaY h.blk
 have hg:g<w.heap.size:=World.block_lt_of_cell? w ⟨g,k*5,none⟩ e0
 have hnl:K.ns.length=c.net.length:=by rw [← h.nets,List.length_map]
 obtain ⟨adv,cpv,hva,_⟩:=id hh1
 subst hva
 obtain ⟨ad',cap',hv',hc',H'⟩:=h.net.elem zdD
 obtain ⟨g',hg',-,-,-,hrow⟩:=H' (by omega)
 rw [hv,hg'] at hv'
 obtain ⟨rfl,rfl⟩:g=g' ∧ cap=cap' := by
  simp only [Value.slice.injEq,Option.some.injEq,Addr.mk.injEq] at hv'
  exact ⟨hv'.1.1,hv'.2.2⟩
 have HROW:Hid (∀ j (hj:j<K.ns.length) i u,(K.ns[j].cells)[i]? = some u→w.cell? ⟨g,j*5+i,none⟩=some u):=hrow
 have HONE:Hid (∀ f∈K.ns,f.v.oneCell' = true):=fun f hf=>zeR (h.netd f hf)
 have H:=Hid.mk h
 have HH1:=Hid.mk hh1
 obtain ⟨i0,hi0,hz0,hz1,hz2⟩:=info_parts ze6
 generalize c.frm k=F at *
 obtain ⟨f0,f1,f2,f3,f4⟩:=F
 simp only at *
 have hkn:k<K.ns.length:=by omega
 have hn2:K.ns.length≤200:=by omega
 rw [← hnl] at c6
 have q1:(k:Int)<(K.ns.length:Int):=by omega
 clear hrow H' hv' hg' hh1 h hv hc' hnl hk hl hc hh2
 have HDN:Hid (∀ wr rest,OutInv w wr #[.int .i64 f0,.int .i64 f1,.int .i64 f2,.int .i64 f3,.slice adv f4.length cpv] rest (K.ns.eraseIdx k)→_):=fun wr rest hi=>hi.done H.out (fun f hf=>List.mem_of_mem_eraseIdx hf) HH1.out (.int .i64 f0) (.int .i64 f1) (.int .i64 f2) (.int .i64 f3)
 have HNET:Hid (({ c with net:=(K.ns.eraseIdx k).map Fm.f }:Clu)=c.out k):=by unfold Hid Clu.out;rw [← H.out.nets,zcZ]
 unfold set5 at HDN
 rw [HNET.out] at HDN
 clear HH1 H HNET
 go_enter Tryz.func124,Tryz.ntmps124
 go_wp2
 go_loopw [6,7] (fun v j wr=>∃ i:Nat,i≤K.ns.length∧j = .int .i64 i∧Hid (OutInv w wr #[.int .i64 f0,.int .i64 f1,.int .i64 f2,.int .i64 f3,.slice adv f4.length cpv] v ((K.ns.take i).eraseIdx k))) (fun _ j _=>K.ns.length - (intOf j).toNat)
 case atStart=>exact ⟨0,Nat.zero_le _,rfl,⟨(zm0 w _ _).2,(zm0 w _ _).1,by simp [World.ownsRow],zaO (zaO (Below.refl _ _) _) _,by simp⟩⟩
 case round =>
  obtain ⟨i,hi,rfl,hinv⟩:=hrel
  have hbel:=hinv.out.bel
  have hsz:=hinv.out.size
  have c6r:wr.cell? ⟨x,6,none⟩=some (.slice (some ⟨g,0,none⟩) K.ns.length cap):=by rw [hbel.cell (p:=⟨x,6,none⟩) hx];exact c6
  obtain ⟨adr,cpr,hvr⟩:=zh1 hinv.out.own
  subst hvr
  by_cases hl:i<K.ns.length
  ·by_cases hik:i=k
   ·subst hik
    have HE:Hid ((K.ns.take (i+1)).eraseIdx i=(K.ns.take i).eraseIdx i):=zc0 K.ns i hl
    go_wp2
    exact ⟨⟨i+1,by omega,by go_num,by rw [HE.out];exact hinv⟩,by simp [intOf];omega⟩
   ·have HE:Hid ((K.ns.take (i+1)).eraseIdx k=(K.ns.take i).eraseIdx k ++ [K.ns[i]]):=zc1 K.ns k i hl hik
    have hik2:¬ ((i:Int)=(k:Int)):=by omega
    have t0:wr.cell? ⟨g,i*5,none⟩=some (.int .i64 K.ns[i].f.kind):=by rw [hbel.cell (p:=⟨g,i*5,none⟩) hg];exact HROW.out i hl 0 _ rfl
    have t1:wr.cell? ⟨g,i*5+1,none⟩=some (.int .i64 K.ns[i].f.src):=by rw [hbel.cell (p:=⟨g,i*5+1,none⟩) hg];exact HROW.out i hl 1 _ rfl
    have t2:wr.cell? ⟨g,i*5+2,none⟩=some (.int .i64 K.ns[i].f.dst):=by rw [hbel.cell (p:=⟨g,i*5+2,none⟩) hg];exact HROW.out i hl 2 _ rfl
    have t3:wr.cell? ⟨g,i*5+3,none⟩=some (.int .i64 K.ns[i].f.upto):=by rw [hbel.cell (p:=⟨g,i*5+3,none⟩) hg];exact HROW.out i hl 3 _ rfl
    have t4:wr.cell? ⟨g,i*5+4,none⟩=some K.ns[i].v:=by rw [hbel.cell (p:=⟨g,i*5+4,none⟩) hg];exact HROW.out i hl 4 _ rfl
    have hone:=HONE.out _ (List.getElem_mem hl)
    have hown:=hinv.out.own
    have hlen:((K.ns.take i).eraseIdx k).length≤200:=Nat.le_trans (List.length_eraseIdx_le _ _) (by simp;omega)
    generalize K.ns[i]=m at *
    generalize (K.ns.take i).eraseIdx k=ns at *
    obtain ⟨⟨m0,m1,m2,m3,m4⟩,mv⟩:=m
    simp only at *
    clear HROW HONE HDN
    go_wp2_with (at_builtin;refine wpList_append_lies _ rfl _ _ 91 rfl (w.heap.size+2) 162 i0 _ 5 56 Tryz.underlying91 hi0 hz0 hz1 hz2 rfl (by decide) _ ns.length _ rfl (hown.alloc _) ⟨wr.heap.size,0,none⟩ 1 1 [.int .i64 m0,.int .i64 m1,.int .i64 m2,.int .i64 m3,mv] rfl rfl (World.news_of_block (heap_alloc_new wr _)) (zdm hone) (by decide) (by unfold maxLen;omega) (by omega) (by simp;omega) (wr.heap.size+1) (by simp) ?_;intro g3 capn w3 hown3 hgrow3 hat3 hlt3)
    exact ⟨⟨i+1,by omega,by go_num,by rw [HE.out];exact hinv.out.more hgrow3 hown3⟩,by simp [intOf];omega⟩
  ·have hil:i=K.ns.length:=by omega
   subst hil
   rw [List.take_of_length_le (Nat.le_refl _)] at hinv
   have hdn:=HDN.out _ _ hinv.out
   have f6r:wr.frozen? ⟨x,6,none⟩=false:=by rw [hbel.frozen (p:=⟨x,6,none⟩) hx];exact f6
   obtain ⟨s0,s1,s2,s3,s4⟩:=zdl hinv.out.fv
   obtain ⟨r0,r1,r2,r3,r4⟩:=zdl hinv.out.res
   have rf:=zaZ hinv.out.res
   have hnx:x ≠ w.heap.size:=by omega
   have hnx1:x ≠ w.heap.size+1:=by omega
   have HD:=Hid.mk hdn
   clear hdn HDN HROW HONE hinv
   go_wp2
   obtain ⟨hB,hA,hH,hF⟩:=HD.out
   clear r0 r1 r2 r3 r4 s0 s1 s2 s3 s4
   refine bodyPost_ret (v := .agg #[.int .i64 f0,.int .i64 f1,.int .i64 f2,.int .i64 f3,.slice adv f4.length cpv]) ?_ rfl ⟨_,rfl,_,_,hA,hH,hF⟩
   obtain ⟨r0,r1,r2,r3,r4⟩:=zdl hB
   simp [results,Tryz.results124,go_sem,r0,r1,r2,r3,r4]
set_option maxRecDepth 100000 in
theorem zj6 {w:World}{col:Col}{o x N:Nat}{U:List At}{K:RefC}{c:Clu}(h:RefAt w col o x K c)(hok:c.ok U N)(k:Int) :
  Calls Tryz.prog 83 #[.pointer (some ⟨x,0,none⟩),.int .i64 k] w fun e w' => e = .returned (.int .i64 (c.netErr k))∧∃ K' col',Hid (RefAt w' col' o x K' (c.dropF k))∧Hid (FrC (ofOwner o) col col' w w'):=by
 have HW:=zkb h k
 have H:=Hid.mk h
 unfold Clu.netErr
 cases hh:c.has k
 ·have HC:Hid (c.dropF k=c):=by unfold Hid Clu.dropF;rw [hh];rfl
  rw [hh] at HW
  go_enter Tryz.func83,Tryz.ntmps83
  go_wp2_with fail
  refine HW.mono ?_
  rintro e w' ⟨rfl,rfl⟩
  go_wp2
  go_ret
  exact ⟨rfl,K,col,by rw [HC.out];exact H,FrC.refl _ _ _⟩
 ·obtain ⟨h0,hlt⟩:=zeH hh
  obtain ⟨n,rfl⟩:∃ n:Nat,k=n:=⟨k.toNat,by omega⟩
  simp only [Int.toNat_natCast] at hlt
  have HC:Hid (c.dropF n=c.out n):=by unfold Hid Clu.dropF;rw [hh];rfl
  have hout:=zkd h hok.netL hlt
  rw [hh] at HW
  clear h hok hh
  go_enter Tryz.func83,Tryz.ntmps83
  go_wp2_with fail
  refine HW.mono ?_
  rintro e w' ⟨rfl,rfl⟩
  go_wp2_with fail
  refine hout.mono ?_
  rintro e w2 ⟨v,rfl,K2,col2,hR2,hH2,hF2⟩
  go_wp2
  go_ret
  exact ⟨rfl,K2,col2,by rw [HC.out];exact hR2,hF2⟩
set_option maxRecDepth 100000 in
theorem zj1 {w:World}{col:Col}{o x N:Nat}{U:List At}{K:RefC}{c:Clu}(h:RefAt w col o x K c)(hok:c.ok U N)(k:Int) :
  Calls Tryz.prog 85 #[.pointer (some ⟨x,0,none⟩),.int .i64 k] w fun e w' => e = .returned (.int .i64 (c.netErr k))∧∃ K' col',Hid (RefAt w' col' o x K' (c.copyF k))∧Hid (FrC (ofOwner o) col col' w w'):=by
 have HW:=zkb h k
 have H:=Hid.mk h
 unfold Clu.netErr
 cases hh:c.has k
 ·have HC:Hid (c.copyF k=c):=by unfold Hid Clu.copyF;rw [hh];rfl
  rw [hh] at HW
  go_enter Tryz.func85,Tryz.ntmps85
  go_wp2_with fail
  refine HW.mono ?_
  rintro e w' ⟨rfl,rfl⟩
  go_wp2
  go_ret
  exact ⟨rfl,K,col,by rw [HC.out];exact H,FrC.refl _ _ _⟩
 ·obtain ⟨h0,hlt⟩:=zeH hh
  obtain ⟨n,rfl⟩:∃ n:Nat,k=n:=⟨k.toNat,by omega⟩
  simp only [Int.toNat_natCast] at hlt
  have HC:Hid (c.copyF n=c.put (c.frm n)):=by unfold Hid Clu.copyF;rw [hh];rfl
  obtain ⟨g,cap,v,hv,hc,hh1,hh2,e0,e1,e2,e3,e4⟩:=h.frame hlt
  have c6:=h.cells.2.2.2.2.2.2.1
  rw [hv] at c6
  have hnl:=hok.netL
  have HPUT:Hid (∀ W,Below w.heap.size w W→Calls Tryz.prog 80 #[.pointer (some ⟨x,0,none⟩),.agg #[.int .i64 (c.frm n).kind,.int .i64 (c.frm n).src,.int .i64 (c.frm n).dst,.int .i64 (c.frm n).upto,v]] W fun e w' => e = .returned (.tuple #[])∧∃ K' col',Hid (RefAt w' col' o x K' (c.put (c.frm n)))∧Hid (FrC (ofOwner o) col col' W w')):=fun W hW=>zke (h.same hW) hok.netL (hh1.kept (S:=fun _=>False) (zdJ hW) id)
  obtain ⟨adv,cpv,hva,_⟩:=hh1
  subst hva
  have hg:g<w.heap.size:=World.block_lt_of_cell? w ⟨g,n*5,none⟩ e0
  have hx:=zaY h.blk
  rw [hh] at HW
  clear h hok hh hh2 hv
  generalize c.frm n=F at *
  obtain ⟨f0,f1,f2,f3,f4⟩:=F
  simp only at *
  generalize hLL:c.net.length=L at *
  clear hLL
  have q1:(n:Int)<(L:Int):=by omega
  go_enter Tryz.func85,Tryz.ntmps85
  go_wp2_with fail
  refine HW.mono ?_
  rintro e w' ⟨rfl,rfl⟩
  clear HW
  go_wp2_with fail
  refine (HPUT.out _ (Below.refl _ _)).mono ?_
  rintro e w2 ⟨rfl,K2,col2,hR2,hF2⟩
  go_wp2
  go_ret
  exact ⟨rfl,K2,col2,by rw [HC.out];exact hR2,hF2⟩
set_option maxRecDepth 100000 in
theorem zgY (v1 v2:Value)(l m:List At)(w:World)(h1:SliceOf w v1 l)(h2:SliceOf w v2 m)(hs1:∀ a∈l,fits a)(hs2:∀ a∈m,fits a)(hlen:l.length≤549755813888)(hlen2:m.length≤549755813888) :
  Calls Tryz.prog 125 #[v1,v2] w fun e w' => ∃ v' L,e = .returned v' ∧ w'.ownsRow w.heap.size 76 6 v' (newsTo L m L.length).length (flat (newsTo L m L.length))∧Hid (IsTold l L)∧Below w.heap.size w w' := by
 have hcon:=zmP v1 l w h1 hs1 (by omega)
 have HS1:Hid (∀ a∈l,fits a):=hs1
 have HS2:Hid (∀ a∈m,fits a):=hs2
 have H2:Hid (SliceOf w v2 m):=h2
 obtain ⟨ad2,cap2,rfl,hc2,-⟩:=h2
 obtain ⟨i0,hi,hz0,hz1,hz2⟩:=info_parts zeZ
 clear h1 hs1 hs2
 go_enter Tryz.func125,Tryz.ntmps125
 go_wp2_with fail
 refine hcon.mono ?_
 rintro e w1 ⟨v4,L,rfl,hown,ht,hb1⟩
 have hLl:=zmS ht.out
 have HFL:Hid (∀ a∈L,fits a):=fun a ha=>HS1.out a (ht.out.great a ha).1
 obtain ⟨ad1,cap1,rfl,hc1,HL⟩:=zlD rfl hown
 have HR1:Hid (0<L.length→∃ b off,ad1=some ⟨b,off,none⟩∧b<w1.heap.size∧RowAt w1 b off L):=HL
 obtain ⟨ad2',cap2',e2,hc2',HM2⟩:=H2.out.below hb1
 cases e2
 have HR2:Hid (0<m.length→∃ b off,ad2=some ⟨b,off,none⟩∧b<w1.heap.size∧RowAt w1 b off m):=HM2
 clear hcon HL HM2 hown H2 hc2' HS1
 go_wp2
 go_loopw [5,7] (fun v j wr=>∃ k:Nat,k≤L.length∧j = .int .i64 k∧wr.ownsRow w1.heap.size 76 6 v (newsTo L m k).length (flat (newsTo L m k))∧Below w1.heap.size w1 wr) (fun _ j _=>L.length - (intOf j).toNat)
 case atStart=>exact ⟨0,Nat.zero_le _,rfl,by simp [flat,newsTo,World.ownsRow],Below.refl _ _⟩
 case round =>
  obtain ⟨k,hk,rfl,hown,hbw⟩:=hrel
  by_cases hl:k<L.length
  ·obtain ⟨b,off,rfl,hb,hrow⟩:=HR1.out (by omega)
   have hx:=HFL.out _ (zg6 L k hl)
   have hrx:=(hrow.below hbw hb).nth hl
   have hsucc:=zgX L m k hl
   have hll:=zgW L m k hk
   generalize nth L k=x at *
   have HRX:Hid (cellsAt wr b (off+k*6) x):=hrx
   have HSU:Hid (newsTo L m (k+1)=if frTo x m m.length then newsTo L m k ++ [x] else newsTo L m k):=hsucc
   have hsz:=hbw.size
   clear hrow HR1 hrx hsucc
   obtain ⟨wo,rfl⟩:∃ wo:World,wo=wr:=⟨_,rfl⟩
   go_wp2
   go_loopw [8,9] (fun f j wr=>∃ i:Nat,i≤m.length∧j = .int .i64 i∧f = .bool (frTo x m i)∧Below wo.heap.size wo wr) (fun _ j _=>m.length - (intOf j).toNat)
   case atStart=>exact ⟨0,Nat.zero_le _,rfl,rfl,Below.refl _ _⟩
   case round =>
    obtain ⟨i,hiL,rfl,rfl,hbi⟩:=hrel
    by_cases hil:i<m.length
    ·obtain ⟨b2,off2,rfl,hb2,hrow2⟩:=HR2.out (by omega)
     have hy:=HS2.out _ (zg6 m i hil)
     obtain ⟨d0,d1,d2,d3,d4,d5⟩:=(hrow2.below (hbw.trans (hbi.mono hsz)) hb2).nth hil
     obtain ⟨c0,c1,c2,c3,c4,c5⟩:=zbt hbi (by omega) HRX.out
     have hsu:=zdM x m i
     generalize nth m i=y at *
     have HFS:Hid (frTo x m (i+1)=(frTo x m i && !old x y)):=hsu
     generalize frTo x m i=fr at *
     have hszi:=hbi.size
     clear hsu hrow2 HR2
     have q1:(0:Int)≤(k:Int):=by omega
     have q2:(k:Int)<(L.length:Int):=by omega
     have q3:(0:Int)≤(i:Int):=by omega
     have q4:(i:Int)<(m.length:Int):=by omega
     have hbr:b<wr.heap.size:=by omega
     have hbr2:b2<wr.heap.size:=by omega
     go_wp2
     go_region_held3 (fun w' => w'.cell? ⟨b,off+k*6,none⟩=some (.int .i64 x.ty)∧w'.cell? ⟨b,off+k*6+1,none⟩=some (.string x.key)∧w'.cell? ⟨b,off+k*6+2,none⟩=some (.int .i64 x.side)∧w'.cell? ⟨b,off+k*6+3,none⟩=some (.int .i64 x.who)∧w'.cell? ⟨b,off+k*6+4,none⟩=some (.string x.elem)∧w'.cell? ⟨b,off+k*6+5,none⟩=some (.int .i64 x.n)∧w'.cell? ⟨b2,off2+i*6,none⟩=some (.int .i64 y.ty)∧w'.cell? ⟨b2,off2+i*6+1,none⟩=some (.string y.key)∧w'.cell? ⟨b2,off2+i*6+2,none⟩=some (.int .i64 y.side)∧w'.cell? ⟨b2,off2+i*6+3,none⟩=some (.int .i64 y.who)∧w'.cell? ⟨b2,off2+i*6+4,none⟩=some (.string y.elem)∧w'.cell? ⟨b2,off2+i*6+5,none⟩=some (.int .i64 y.n)) (first | go_keep | (go_split_ands;refine ⟨?_,?_,?_,?_,?_,?_,?_,?_,?_,?_,?_,?_⟩ <;> (first | (rw [hb3.cell (p:=⟨b,_,none⟩) (by simpa using hbr)];assumption) | (rw [hb3.cell (p:=⟨b2,_,none⟩) (by simpa using hbr2)];assumption)))) (first | (go_at_call 122;refine (ziw x y _ hx hy).mono ?_;rintro e w3 ⟨rfl,hb3⟩))
     all_goals go_wp2
     clear c0 c1 c2 c3 c4 c5 d0 d1 d2 d3 d4 d5
     have hbr' : b<w3.heap.size:=Nat.lt_of_lt_of_le hbr hb3.size
     have hbr2' : b2<w3.heap.size:=Nat.lt_of_lt_of_le hbr2 hb3.size
     have hbw3:Below wo.heap.size wo w3:=hbi.drew.trans (hb3.mono hszi)
     clear hb3
     go_region_held3 (fun w' => w'.cell? ⟨b,off+k*6,none⟩=some (.int .i64 x.ty)∧w'.cell? ⟨b,off+k*6+1,none⟩=some (.string x.key)∧w'.cell? ⟨b,off+k*6+2,none⟩=some (.int .i64 x.side)∧w'.cell? ⟨b,off+k*6+3,none⟩=some (.int .i64 x.who)∧w'.cell? ⟨b,off+k*6+4,none⟩=some (.string x.elem)∧w'.cell? ⟨b,off+k*6+5,none⟩=some (.int .i64 x.n)∧w'.cell? ⟨b2,off2+i*6,none⟩=some (.int .i64 y.ty)∧w'.cell? ⟨b2,off2+i*6+1,none⟩=some (.string y.key)∧w'.cell? ⟨b2,off2+i*6+2,none⟩=some (.int .i64 y.side)∧w'.cell? ⟨b2,off2+i*6+3,none⟩=some (.int .i64 y.who)∧w'.cell? ⟨b2,off2+i*6+4,none⟩=some (.string y.elem)∧w'.cell? ⟨b2,off2+i*6+5,none⟩=some (.int .i64 y.n)) (first | go_keep | (go_split_ands;refine ⟨?_,?_,?_,?_,?_,?_,?_,?_,?_,?_,?_,?_⟩ <;> (first | (rw [hb4.cell (p:=⟨b,_,none⟩) (by simpa using hbr')];assumption) | (rw [hb4.cell (p:=⟨b2,_,none⟩) (by simpa using hbr2')];assumption)))) (first | (go_at_call 169;refine (zef x y _ hx hy).mono ?_;rintro e w4 ⟨rfl,hb4⟩))
     have hbw4:Below wo.heap.size wo w4:=hbw3.drew.trans (hb4.mono hbw3.size)
     clear hb4 hbw3
     go_wp2
     all_goals go_light
     all_goals exact ⟨⟨i+1,by omega,by go_num,by rw [HFS.out];simp [old, *],hbw4⟩,by simp [intOf];omega⟩
    ·have him:i=m.length:=by omega
     subst him
     clear HR2
     have hszi:=hbi.size
     have hownI:=zh5 hown hbi
     have hbwI:Below w1.heap.size w1 wr:=hbw.trans (hbi.mono hsz)
     have hbzI:=hbwI.size
     cases hf:frTo x m m.length
     ·rw [hf] at HSU
      have HSV:Hid (newsTo L m (k+1)=newsTo L m k):=by have:=HSU.out;simpa [Hid] using this
      clear HSU HRX hown hbi hf
      go_wp2
      go_roundw
      case rel=>exact ⟨k+1,by omega,by go_num,by rw [HSV.out];exact hownI,hbwI⟩
      case measure=>simp [intOf];omega
     ·rw [hf] at HSU
      have HSV:Hid (newsTo L m (k+1)=newsTo L m k ++ [x]):=by have:=HSU.out;simpa [Hid] using this
      have HF:Hid (flat (newsTo L m k ++ [x])=flat (newsTo L m k) ++ enc x):=zdB _ _
      obtain ⟨c0,c1,c2,c3,c4,c5⟩:=zbt hbi (by omega) HRX.out
      clear HSU HRX hown hbi hf
      generalize newsTo L m k=M at *
      go_wp2_with (at_builtin;refine wpList_append_lies _ rfl _ _ 53 rfl w1.heap.size 76 i0 _ 6 64 Tryz.underlying53 hi hz0 hz1 hz2 rfl (by decide) _ M.length _ rfl (hownI.alloc _) ⟨wr.heap.size,0,none⟩ 1 1 (enc x) rfl rfl (zgZ wr x _) (zcS x) (by decide) (by unfold maxLen;omega) (by omega) (by simp;omega) (wr.heap.size+1) (by simp) ?_;intro g capn w2 hown2 hgrow2 hat2 hlt2)
      go_roundw
      case rel=>exact ⟨k+1,by omega,by go_num,by rw [HSV.out,HF.out,List.length_append];exact hown2,(hbwI.alloc hbzI _).grown hgrow2 (by simp;omega) (zh4 hownI)⟩
      case measure=>simp [intOf];omega
  ·have hkl:k=L.length:=by omega
   subst hkl
   have hfin:=zic hown hb1.size
   have hbe:Below w.heap.size w wr:=hb1.trans (hbw.mono hb1.size)
   clear hown hbw HR1 HR2
   go_wp2
   go_ret
   exact ⟨_,L,rfl,hfin,ht,hbe⟩
end Go.Proofs.YtahdlejgjcjeoabGreatDoor
