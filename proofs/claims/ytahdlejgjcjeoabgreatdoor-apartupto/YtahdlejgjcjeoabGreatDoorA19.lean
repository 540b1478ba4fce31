/- The document's New. -/
import Derived.Test.YtahdlejgjcjeoabGreatDoorA05
import Derived.Test.YtahdlejgjcjeoabGreatDoorA18
import Derived.Test.YtahdlejgjcjeoabGreatDoorA12
namespace Go.Proofs.YtahdlejgjcjeoabGreatDoor
set_option maxHeartbeats 8000000
open Go.RowKit
structure CfgAt (w:World)(q n:Nat)(ad:Option Addr)(m cap:Nat)(bp rr:Bool)(rm:Nat):Prop where
 c0:w.cell? ⟨q,0,none⟩=some (.int .i64 n)
 c1:w.cell? ⟨q,1,none⟩=some (.slice ad m cap)
 lt:q<w.heap.size
theorem ze0:(Tryz.prog.info? 4).map (fun i=>(i.zero,i.size,i.bytes))=some (some (.bool false),1,1):=by kernel_rfl
theorem zgj (n:Nat)(h6:n≤6)(W:World):(Instr.makeSlice 44 (.int .i64 (n:Int)) (.int .i64 (n:Int))).run Tryz.prog W = .ok (.slice (some ⟨W.heap.size,0,none⟩) n n) (W.alloc (.cells (List.replicate n (Value.bool false)).toArray 4)):=by
 obtain ⟨i,hi,hz0,hz1,hz2⟩:=info_parts ze0
 have hr:=run_make (P:=Tryz.prog) W 44 4 i _ Tryz.underlying44 hi hz0 .i64 .i64 n n (by omega) (Int.le_refl _) (by rw [hz2];omega) (by omega)
 simp only [Int.toNat_natCast] at hr
 have hm:madeCells (Value.cells (.bool false)) (n*1)=(List.replicate n (Value.bool false)).toArray:=by
  apply Array.ext_getElem?
  intro t
  by_cases ht:t<n
  ·simp [madeCells,Value.cells,ht,Nat.mod_one]
  ·simp [madeCells,ht]
 rw [hr,hz1,hm]
theorem zgl (n:Nat)(h6:n≤6)(W:World):(Instr.makeSlice 78 (.int .i64 (n:Int)) (.int .i64 (n:Int))).run Tryz.prog W = .ok (.slice (some ⟨W.heap.size,0,none⟩) n n) (W.alloc (.cells (ints (List.replicate n 0)).toArray 3)):=by
 obtain ⟨i,hi,hz0,hz1,hz2⟩:=info_parts zfb
 have hr:=run_make (P:=Tryz.prog) W 78 3 i _ Tryz.underlying78 hi hz0 .i64 .i64 n n (by omega) (Int.le_refl _) (by rw [hz2];omega) (by omega)
 simp only [Int.toNat_natCast] at hr
 have hm:madeCells (Value.cells (.int .i64 0)) (n*1)=(ints (List.replicate n 0)).toArray:=by rw [← zgh]
 rw [hr,hz1,hm]
theorem ziI {w:World}{ad:Option Addr}{n rm m cap:Nat}{bp rr:Bool}(col:Col)(o:Nat)(_hx:(w.alloc (.cells #[.int .i64 n,.slice ad m cap,.bool bp,.bool rr,.int .i64 rm] 24)).heap[w.heap.size]? = some (.cells #[.int .i64 n,.slice ad m cap,.bool bp,.bool rr,.int .i64 rm] 24 (0,0))) :
  PreAt ((w.alloc (.cells #[.int .i64 n,.slice ad m cap,.bool bp,.bool rr,.int .i64 rm] 24)).alloc (.cells #[.int .i64 n,.slice none 0 0,.bool bp,.bool rr,.int .i64 rm,.slice none 0 0,.slice none 0 0] 93)) (paint col w.heap.size (o,0)) o (w.heap.size+1) n rm bp rr (.slice none 0 0) [] noE ∧
  CfgAt ((w.alloc (.cells #[.int .i64 n,.slice ad m cap,.bool bp,.bool rr,.int .i64 rm] 24)).alloc (.cells #[.int .i64 n,.slice none 0 0,.bool bp,.bool rr,.int .i64 rm,.slice none 0 0,.slice none 0 0] 93)) w.heap.size n ad m cap bp rr rm ∧
  Below w.heap.size w ((w.alloc (.cells #[.int .i64 n,.slice ad m cap,.bool bp,.bool rr,.int .i64 rm] 24)).alloc (.cells #[.int .i64 n,.slice none 0 0,.bool bp,.bool rr,.int .i64 rm,.slice none 0 0,.slice none 0 0] 93))∧∀ q,q<w.heap.size→paint col w.heap.size (o,0) q=col q:=by
 have h2:=zm0 w (.cells #[.int .i64 n,.slice ad m cap,.bool bp,.bool rr,.int .i64 rm] 24) (.cells #[.int .i64 n,.slice none 0 0,.bool bp,.bool rr,.int .i64 rm,.slice none 0 0,.slice none 0 0] 93)
 exact ⟨⟨h2.1,zim col _ (by omega),zkR _ _ _ _ _,fun i hi=>by simp at hi⟩,⟨zaX h2.2 0,zaX h2.2 1,zaY h2.2⟩,zaO (zaO (Below.refl _ w) _) _,fun q hq=>zin col _ hq⟩
theorem zcE {n:Nat}{f:Nat→Nat→Bool}{ea eb:Int}(h:edgeOk n f ea eb=true):∃ a b:Nat,ea=a∧eb=b∧a<n∧b<n∧a ≠ b∧addE f ea.toNat eb.toNat=addE f a b:=by
 unfold edgeOk at h
 simp only [Bool.and_eq_true,decide_eq_true_eq] at h
 obtain ⟨⟨h1,h2,h3,h4,h5⟩,-⟩:=h
 exact ⟨ea.toNat,eb.toNat,by omega,by omega,by omega,by omega,by omega,rfl⟩
theorem zfe:(Tryz.prog.info? 138).map (fun i=>(i.zero,i.size,i.bytes))=some (some (.pointer none),1,8):=by kernel_rfl
structure Four (w wA:World)(a b c d:Obj):Prop where
 bel:Below w.heap.size w wA
 b0:wA.heap[w.heap.size]? = some a
 b1:wA.heap[w.heap.size+1]? = some b
 b2:wA.heap[w.heap.size+2]? = some c
 b3:wA.heap[w.heap.size+3]? = some d
theorem zdF {w wA:World}{a b c d:Obj}(h:wA=(((w.alloc a).alloc b).alloc c).alloc d):Four w wA a b c d:=by
 subst h
 have s1:(w.alloc a).heap.size=w.heap.size+1:=by simp
 have s2:((w.alloc a).alloc b).heap.size=w.heap.size+2:=by simp
 have s3:(((w.alloc a).alloc b).alloc c).heap.size=w.heap.size+3:=by simp
 have h0:=heap_alloc_new w a
 have h1:=heap_alloc_new (w.alloc a) b
 have h2:=heap_alloc_new ((w.alloc a).alloc b) c
 have h3:=heap_alloc_new (((w.alloc a).alloc b).alloc c) d
 rw [s1] at h1
 rw [s2] at h2
 rw [s3] at h3
 have k:∀ (W:World) (o:Obj) (q:Nat) (x:Obj),W.heap[q]? = some x→(W.alloc o).heap[q]? = some x:=fun W o q x h=>(((Below.refl _ W).alloc (Nat.le_refl _) o).block q (zaY h)).trans h
 exact ⟨zaO (zaO (zaO (zaO (Below.refl _ w) _) _) _) _,k _ _ _ _ (k _ _ _ _ (k _ _ _ _ h0)),k _ _ _ _ (k _ _ _ _ h1),k _ _ _ _ h2,h3⟩
theorem zaN {w wA:World}{g k:Nat}{v:Value}(hb:Below w.heap.size w wA)(h:w.cell? ⟨g,k,none⟩=some v):wA.cell? ⟨g,k,none⟩=some v:=by
 obtain ⟨cs,e,fz,hx,_⟩:=Go.Sort.cells_of_cell? h
 exact (hb.cell (p:=⟨g,k,none⟩) (Array.getElem?_eq_some_iff.1 hx).1).trans h
theorem ziJ {w:World}{col:Col}{o x n rm q:Nat}{bp rr:Bool}{vR:Value}{Ds:List RefD}{f:Nat→Nat→Bool}(h:PreAt w col o x n rm bp rr vR Ds f)(hq:col q=(o,0)):some q ≠ vR.ownBlock:=fun e=>by
 have:=h.rows.col q e.symm
 rw [hq] at this
 simp at this
theorem ziK {w:World}{col:Col}{o x n rm:Nat}{bp rr:Bool}{vR:Value}{Ds:List RefD}{f:Nat→Nat→Bool}(h:PreAt w col o x n rm bp rr vR Ds f):some x ≠ vR.ownBlock:=ziJ h h.cx
theorem CfgAt.fr {w w' : World}{q n m cap rm:Nat}{ad:Option Addr}{bp rr:Bool}(h:CfgAt w q n ad m cap bp rr rm)(hb:w'.heap[q]? = w.heap[q]?):CfgAt w' q n ad m cap bp rr rm :=
 ⟨(World.cell?_of_block (a:=⟨q,0,none⟩) hb).trans h.c0,(World.cell?_of_block (a:=⟨q,1,none⟩) hb).trans h.c1,by
  have:=h.lt
  have h2:(w'.heap[q]?).isSome=true:=by rw [hb,Array.getElem?_eq_getElem this];rfl
  rcases Nat.lt_or_ge q w'.heap.size with h3 | h3
  ·exact h3
  ·rw [Array.getElem?_eq_none h3] at h2;cases h2⟩
theorem ziH {w wr:World}{col col' : Col}{o n rm r m cap:Nat}{ad:Option Addr}{bp rr:Bool}{vR:Value}{Ds:List RefD}(h:PreAt wr col' o (w.heap.size+1) n rm bp rr vR Ds noE)(hl:Ds.length=r)(hc:CfgAt wr w.heap.size n ad m cap bp rr rm)(hb:Below w.heap.size w wr)(hcol:(∀ q,q<w.heap.size→col' q=col q)∧col' w.heap.size=(o,0))(hfo:∀ q,q<w.heap.size→(col q).1 ≠ o)(h6:n≤6)(hr:r<n) :
  ∀ (nb ab ρ:Nat) (wA w3:World) (g capn:Nat),Below wr.heap.size wr wA→wA.heap[nb]? = some (.cells (List.replicate n (Value.bool false)).toArray 4 (0,0))→wA.heap[ab]? = some (.cells (ints (List.replicate n 0)).toArray 3 (0,0)) →
   wA.heap[ρ]? = some (.cells #[.bool false,.slice none 0 0,.int .i64 0,.int .i64 0,.slice none 0 0,.slice (some ⟨nb,0,none⟩) n n,.slice (some ⟨ab,0,none⟩) n n,.slice none 0 0,.int .i64 0,.int .i64 0] 142 (0,0)) →
   wr.heap.size≤nb→wr.heap.size≤ab→wr.heap.size≤ρ→w3.ownsRow 0 138 1 (.slice (some ⟨g,0,none⟩) (r+1) capn) (r+1) ((Ds.map fun D=>Value.pointer (some ⟨D.ρ,0,none⟩)) ++ [.pointer (some ⟨ρ,0,none⟩)])→wA.grownBy w3 vR.ownBlock→(vR.ownBlock=some g∨g=wA.heap.size) →
   Hid ((Ds ++ [newD ρ nb ab n]).length=r+1)∧Hid (PreAt (w3.setCell ⟨w.heap.size+1,5,none⟩ (.slice (some ⟨g,0,none⟩) (r+1) capn)) (newCol col' wr.heap.size o Ds.length nb ab ρ) o (w.heap.size+1) n rm bp rr (.slice (some ⟨g,0,none⟩) (r+1) capn) (Ds ++ [newD ρ nb ab n]) noE)∧Hid (CfgAt (w3.setCell ⟨w.heap.size+1,5,none⟩ (.slice (some ⟨g,0,none⟩) (r+1) capn)) w.heap.size n ad m cap bp rr rm)∧Hid (Below w.heap.size w (w3.setCell ⟨w.heap.size+1,5,none⟩ (.slice (some ⟨g,0,none⟩) (r+1) capn)))∧Hid ((∀ q,q<w.heap.size→newCol col' wr.heap.size o Ds.length nb ab ρ q=col q)∧newCol col' wr.heap.size o Ds.length nb ab ρ w.heap.size=(o,0)):=by
 intro nb ab ρ wA w3 g capn hA hnb hab hρ n1 n2 n3 hown hg hat
 subst hl
 obtain ⟨hp,hf⟩:=h.push h6 (by omega) hA hnb hab hρ n1 n2 n3 hown hg hat
 have hvl:∀ q,vR.ownBlock=some q→q<wr.heap.size:=zh3 h.rows.own
 have hs:=hb.size
 have hge:∀ q,vR.ownBlock=some q→w.heap.size≤q:=fun q hq=>Nat.le_of_not_lt fun hlt=>hfo q hlt (by rw [← hcol.1 q hlt,h.rows.col q hq])
 have hblk:∀ q,q<wr.heap.size→q ≠ w.heap.size+1→some q ≠ vR.ownBlock→(w3.setCell ⟨w.heap.size+1,5,none⟩ (.slice (some ⟨g,0,none⟩) (Ds.length+1) capn)).heap[q]? = wr.heap[q]? := fun q hq hx hv=>by
  rw [Below.heap_setCell _ _ _ _ hx,hg.block q (Nat.lt_of_lt_of_le hq hA.size) hv,hA.block q hq]
 refine ⟨by rw [Hid];simp,hp,hc.fr (hblk _ hc.lt (by omega) (ziJ h hcol.2)),?_,fun q hq => ?_,?_⟩
 ·have g2:=zet w3 ⟨w.heap.size+1,5,none⟩ (.slice (some ⟨g,0,none⟩) (Ds.length+1) capn)
  exact ((hb.trans (hA.mono hs)).grown hg (Nat.le_trans hs hA.size) (fun k hk=>hge k hk)).grown g2 (Nat.le_trans (Nat.le_trans hs hA.size) hg.size) (fun k hk=>by cases hk;exact Nat.le_succ _)
 ·rw [hf.col q (by omega)]
  exact hcol.1 q hq
 ·rw [hf.col _ hc.lt]
  exact hcol.2
set_option maxRecDepth 100000 in
theorem refNew (v:Value)(es:List (Int × Int))(reps room:Int)(bp rr:Bool)(w:World)(col:Col)(o:Nat)(hv:EdgesOf w v es)(hlen:es.length≤1048576)(hfo:∀ q,q<w.heap.size→(col q).1 ≠ o) :
  Calls Tryz.prog 21 #[.agg #[.int .i64 reps,v,.bool bp,.bool rr,.int .i64 room]] w fun e w' => Below w.heap.size w w' ∧ ((newOk reps room es=false∧e = .returned (.tuple #[.pointer none,.int .i64 4]))∨(newOk reps room es=true∧∃ y K f col',e = .returned (.tuple #[.pointer (some ⟨y,0,none⟩),.int .i64 0])∧RefAt w' col' o y K (clu0 room.toNat bp rr reps.toNat f)∧FrC (fun _=>False) col col' w w' ∧ linkAll reps.toNat noE es=some f)):=by
 have HE:Hid (EdgesOf w v es):=hv
 obtain ⟨ad,cap,rfl,-⟩:=hv
 have hx0:=heap_alloc_new w (.cells #[.int .i64 reps,.slice ad es.length cap,.bool bp,.bool rr,.int .i64 room] 24)
 go_enter Tryz.func21,Tryz.ntmps21
 by_cases hs:1≤reps∧reps≤6∧1≤room∧room≤8
 ·obtain ⟨n,rfl⟩:∃ n:Nat,reps=n:=⟨reps.toNat,by omega⟩
  obtain ⟨rm,rfl⟩:∃ n:Nat,room=n:=⟨room.toNat,by omega⟩
  have hnk:newOk n rm es=(linkAll n noE es).isSome:=by unfold newOk;rw [decide_eq_true hs];simp
  obtain ⟨s1,s2,s3,s4⟩:=hs
  go_wp2
  have hmk1:=fun W=>zgj n (by omega) W
  have hmk2:=fun W=>zgl n (by omega) W
  have HS:=Hid.mk (ziI (rm:=rm) (bp:=bp) (rr:=rr) (n:=n) col o hx0)
  clear hx0
  go_loopw [5] (fun s wr=>∃ (r:Nat) (vR:Value) (Ds:List RefD) (col' : Col),r≤n∧s = .int .i64 r∧Hid (Ds.length=r)∧Hid (PreAt wr col' o (w.heap.size+1) n rm bp rr vR Ds noE)∧Hid (CfgAt wr w.heap.size n ad es.length cap bp rr rm)∧Hid (Below w.heap.size w wr)∧Hid ((∀ q,q<w.heap.size→col' q=col q)∧col' w.heap.size=(o,0))) (fun s _=>n - (intOf s).toNat)
  case atStart=>exact ⟨0,_,[],_,Nat.zero_le _,rfl,(by rw [Hid];rfl),HS.out.1,HS.out.2.1,HS.out.2.2.1,HS.out.2.2.2,zim _ _ (Nat.le_refl _)⟩
  case round =>
   clear HS
   obtain ⟨r,vR,Ds,col',hr,rfl,hDl,hpre,hcfg,hbw,hcol⟩:=hrel
   have k0:=hcfg.out.c0
   by_cases hl:r<n
   ·have q1:(r:Int)<(n:Int):=by omega
    have HPU:=Hid.mk (ziH hpre.out hDl.out hcfg.out hbw.out hcol.out hfo (by omega) hl)
    have k5:=zaX hpre.out.blk 5
    have HBX:=Hid.mk hpre.out.blk
    have hxl:=zaY hpre.out.blk
    have HV0:=Hid.mk (ziJ hpre.out hcol.out.2)
    have HV5:=Hid.mk (ziK hpre.out)
    have hOW:=hpre.out.rows.own
    rw [hDl.out] at hOW
    obtain ⟨adR,capR,hvR⟩:=zh1 hOW
    subst hvR
    have HOW:=Hid.mk hOW
    obtain ⟨i0,hi0,hz0,hz1,hz2⟩:=info_parts zfe
    clear hOW hpre hcfg hbw hcol hDl
    simp at k5
    go_wp2
    refine znN 17 (S:=fun w' => w'.cell? ⟨w.heap.size,0,none⟩=some (.int .i64 n)∧w'.cell? ⟨w.heap.size+1,5,none⟩=some (.slice adR r capR)) (by kernel_rfl) ⟨k0,k5⟩ (fun hHeld => ?_)
    refine znE (i:=0) (oi:=_) (v := ?_) rfl (by kernel_rfl) (by kernel_rfl) (by kernel_rfl) (by kernel_rfl) (fun _ _ _ h=>h) (Or.inl ⟨by rfl,?_⟩) (by assumption) (by kernel_rfl) ?_
    rotate_left
    ·intro w hSw
     try dsimp only at hSw
     go_simp <;> with_reducible rfl
    simp only [Act.put,List.setIfInBounds_toArray]
    refine znE (i:=1) (oi:=_) (v := ?_) rfl (by kernel_rfl) (by kernel_rfl) (by kernel_rfl) (by kernel_rfl) (fun _ _ _ h=>h) (Or.inl ⟨by rfl,?_⟩) (by assumption) (by kernel_rfl) ?_
    rotate_left
    ·intro w hSw
     try dsimp only at hSw
     go_simp <;> with_reducible rfl
    simp only [Act.put]
    refine znE (i:=2) (oi:=_) (v := ?_) rfl (by kernel_rfl) (by kernel_rfl) (by kernel_rfl) (by kernel_rfl) (fun _ _ _ h=>h) (Or.inl ⟨by rfl,?_⟩) (by assumption) (by kernel_rfl) ?_
    rotate_left
    ·intro w hSw
     try dsimp only at hSw
     go_simp <;> with_reducible rfl
    simp only [Act.put]
    refine znE (i:=3) (oi:=_) (v := ?_) rfl (by kernel_rfl) (by kernel_rfl) (by kernel_rfl) (by kernel_rfl) (fun _ _ _ h=>h) (Or.inl ⟨by rfl,?_⟩) (by assumption) (by kernel_rfl) ?_
    rotate_left
    ·intro w hSw
     try dsimp only at hSw
     go_simp <;> with_reducible rfl
    simp only [Act.put]
    refine znE (i:=4) (oi:=_) (v := ?_) rfl (by kernel_rfl) (by kernel_rfl) (by kernel_rfl) (by kernel_rfl) (fun _ _ _ h=>h) (Or.inl ⟨by rfl,?_⟩) (by assumption) (by kernel_rfl) ?_
    rotate_left
    ·intro w hSw
     try dsimp only at hSw
     go_simp <;> with_reducible rfl
    simp only [Act.put]
    refine znE (i:=5) (oi:=_) (v := ?_) rfl (by kernel_rfl) (by kernel_rfl) (by kernel_rfl) (by kernel_rfl) (fun _ _ _ h=>h) (Or.inl ⟨by rfl,?_⟩) (by assumption) (by kernel_rfl) ?_
    rotate_left
    ·intro w hSw
     try dsimp only at hSw
     go_simp <;> with_reducible rfl
    simp only [Act.put]
    refine znE (i:=6) (oi:=_) (v := ?_) rfl (by kernel_rfl) (by kernel_rfl) (by kernel_rfl) (by kernel_rfl) (fun _ _ _ h=>h) (Or.inl ⟨by rfl,?_⟩) (by assumption) (by kernel_rfl) ?_
    rotate_left
    ·intro w hSw
     try dsimp only at hSw
     go_simp <;> with_reducible rfl
    simp only [Act.put]
    refine znE (i:=8) (oi:=_) (v := ?_) rfl (by kernel_rfl) (by kernel_rfl) (by kernel_rfl) (by kernel_rfl) (fun _ _ _ h=>h) (Or.inl ⟨by rfl,?_⟩) (by assumption) (by kernel_rfl) ?_
    rotate_left
    ·intro w hSw
     try dsimp only at hSw
     go_simp <;> with_reducible rfl
    simp only [Act.put]
    refine znE (i:=9) (oi:=_) (v := ?_) rfl (by kernel_rfl) (by kernel_rfl) (by kernel_rfl) (by kernel_rfl) (fun _ _ _ h=>h) (Or.inl ⟨by rfl,?_⟩) (by assumption) (by kernel_rfl) ?_
    rotate_left
    ·intro w hSw
     try dsimp only at hSw
     go_simp <;> with_reducible rfl
    simp only [Act.put]
    refine znD (rs := [7,10]) (by kernel_rfl) (by simp) ?_
    refine AllReadyL.cons (o:=_) rfl (fun K hK => ?_) (AllReadyL.cons (o:=_) rfl (fun K hK => ?_) AllReadyL.nil)
    ·skip
     go_simp
     refine hK.out _ _ (fun _=>⟨zbp k0 _,zbp k5 _⟩) (fun hHeld' => ?_)
     clear hK K
     replace hHeld:=hHeld' (by kernel_rfl)
     clear hHeld'
     try simp only [Act.put,List.setIfInBounds_toArray,List.set_cons_zero,List.set_cons_succ]
     refine znD (rs := [10]) (by kernel_rfl) (by simp) ?_
     refine AllReadyL.cons (o:=_) rfl (fun K hK => ?_) AllReadyL.nil
     go_simp
     refine hK.out _ _ (fun _=>⟨zbp (zbp k0 _) _,zbp (zbp k5 _) _⟩) (fun hHeld' => ?_)
     clear hK K
     replace hHeld:=hHeld' (by kernel_rfl)
     clear hHeld'
     try simp only [Act.put,List.setIfInBounds_toArray,List.set_cons_zero,List.set_cons_succ]
     refine znE (i:=11) (oi:=_) (v := ?_) rfl (by kernel_rfl) (by kernel_rfl) (by kernel_rfl) (by kernel_rfl) (fun _ _ _ h=>h) (Or.inl ⟨by rfl,?_⟩) (by assumption) (by kernel_rfl) ?_
     rotate_left
     ·intro w hSw
      try dsimp only at hSw
      go_simp <;> with_reducible rfl
     simp only [Act.put,List.setIfInBounds_toArray]
     refine znD (rs := [12]) (by kernel_rfl) (by simp) ?_
     refine AllReadyL.cons (o:=_) rfl (fun K hK => ?_) AllReadyL.nil
     go_simp
     refine hK.out _ _ (fun _=>⟨zbp (zbp (zbp k0 _) _) _,zbp (zbp (zbp k5 _) _) _⟩) (fun hHeld' => ?_)
     clear hK K
     replace hHeld:=hHeld' (by kernel_rfl)
     clear hHeld'
     try simp only [Act.put,List.setIfInBounds_toArray,List.set_cons_zero,List.set_cons_succ]
     refine znD (rs := [13]) (by kernel_rfl) (by simp) ?_
     refine AllReadyL.cons (o:=_) rfl (fun K hK => ?_) AllReadyL.nil
     go_simp
     refine hK.out _ _ (fun _=>⟨zbp (zbp (zbp (zbp k0 _) _) _) _,zbp (zbp (zbp (zbp k5 _) _) _) _⟩) (fun hHeld' => ?_)
     clear hK K
     replace hHeld:=hHeld' (by kernel_rfl)
     clear hHeld'
     try simp only [Act.put,List.setIfInBounds_toArray,List.set_cons_zero,List.set_cons_succ]
     obtain ⟨wA,hwA⟩:∃ wA:World,wA=((((wr.alloc (.cells (List.replicate n (Value.bool false)).toArray 4)).alloc (.cells (ints (List.replicate n 0)).toArray 3)).alloc (.cells #[.bool false,.slice none 0 0,.int .i64 0,.int .i64 0,.slice none 0 0,.slice (some ⟨wr.heap.size,0,none⟩) n n,.slice (some ⟨wr.heap.size+1,0,none⟩) n n,.slice none 0 0,.int .i64 0,.int .i64 0] 142)).alloc (.cells #[.pointer (some ⟨wr.heap.size+2,0,none⟩)] 138)):=⟨_,rfl⟩
     have HA:=Hid.mk (zdF hwA)
     refine znD (rs := [14]) (by kernel_rfl) (by simp) ?_
     refine AllReadyL.cons (o:=_) rfl (fun K hK => ?_) AllReadyL.nil
     change (if _ then Oper.wp _ _ _ (World.drew ((((wr.alloc (.cells (List.replicate n (Value.bool false)).toArray 4)).alloc (.cells (ints (List.replicate n 0)).toArray 3)).alloc (.cells #[.bool false,.slice none 0 0,.int .i64 0,.int .i64 0,.slice none 0 0,.slice (some ⟨wr.heap.size,0,none⟩) n n,.slice (some ⟨wr.heap.size+1,0,none⟩) n n,.slice none 0 0,.int .i64 0,.int .i64 0] 142)).alloc (.cells #[.pointer (some ⟨wr.heap.size+2,0,none⟩)] 138))) _ _ else _)
     rw [← hwA]
     clear hwA
     have hoA:=(zh5 HOW.out HA.out.bel)
     refine step_append_lies _ rfl _ _ 90 rfl 0 138 i0 _ 1 8 Tryz.underlying90 hi0 hz0 hz1 hz2 rfl (by decide) _ r _ rfl hoA ⟨wr.heap.size+3,0,none⟩ 1 1 [.pointer (some ⟨wr.heap.size+2,0,none⟩)] rfl rfl (World.news_of_block HA.out.b3) (by simp [Value.oneCell']) (by decide) (by unfold maxLen;omega) (by omega) (Nat.zero_le _) wA.heap.size rfl ?_
     intro g capn w3 hown3 hgrow3 hat3 hlt3
     have HP:=Hid.mk (HPU.out wr.heap.size (wr.heap.size+1) _ wA w3 g capn HA.out.bel HA.out.b0 HA.out.b1 HA.out.b2 (by omega) (by omega) (by omega) hown3 (zeq hgrow3) hat3)
     have hg3:=zeq hgrow3
     have k0' := hg3.cell (zaN HA.out.bel k0) HV0.out
     have k5' := hg3.cell (zaN HA.out.bel k5) HV5.out
     have f5' : w3.frozen? ⟨w.heap.size+1,5,none⟩=false:=zaZ ((hg3.block _ (Nat.lt_of_lt_of_le hxl HA.out.bel.size) HV5.out).trans ((HA.out.bel.block _ hxl).trans HBX.out)) 5
     clear hown3 hgrow3 hat3 hoA hg3
     refine hK.out _ _ (fun _=>⟨k0',k5'⟩) (fun hHeld' => ?_)
     clear hK K
     replace hHeld:=hHeld' (by kernel_rfl)
     clear hHeld'
     try simp only [Act.put,List.setIfInBounds_toArray]
     refine znD (rs := [15]) (by kernel_rfl) (by simp) ?_
     refine AllReadyL.cons (o:=_) rfl (fun K hK => ?_) AllReadyL.nil
     go_simp
     refine hK.out _ _ (fun _=>⟨k0',k5'⟩) (fun hHeld' => ?_)
     clear hK K
     replace hHeld:=hHeld' (by kernel_rfl)
     clear hHeld'
     try simp only [Act.put,List.setIfInBounds_toArray,List.set_cons_zero,List.set_cons_succ]
     refine znE (i:=16) (oi:=_) (v := ?_) rfl (by kernel_rfl) (by kernel_rfl) (by kernel_rfl) (by kernel_rfl) (fun _ _ _ h=>h) (Or.inl ⟨by rfl,?_⟩) (by assumption) (by kernel_rfl) ?_
     rotate_left
     ·intro w hSw
      try dsimp only at hSw
      go_simp <;> with_reducible rfl
     simp only [Act.put,List.setIfInBounds_toArray]
     refine znD (rs := [17]) (by kernel_rfl) (by simp) ?_
     refine AllReadyL.cons (o:=_) rfl (fun K hK => ?_) AllReadyL.nil
     go_simp
     refine hK.out _ _ (fun h=>zg4 (by kernel_rfl) h) (fun _ => ?_)
     clear hK K
     try simp only [Act.put,List.setIfInBounds_toArray,List.set_cons_zero,List.set_cons_succ]
     refine znA (by kernel_rfl) ?_ _
     go_wp2
     obtain ⟨e1,e2,e3,e4,e5⟩:=HP.out
     exact ⟨⟨r+1,_,_,_,by omega,by go_num,e1,e2,e3,e4,e5⟩,by simp [intOf];omega⟩
    ·skip
     go_simp
     refine hK.out _ _ (fun _=>⟨zbp k0 _,zbp k5 _⟩) (fun hHeld' => ?_)
     clear hK K
     replace hHeld:=hHeld' (by kernel_rfl)
     clear hHeld'
     try simp only [Act.put,List.setIfInBounds_toArray,List.set_cons_zero,List.set_cons_succ]
     refine znD (rs := [7]) (by kernel_rfl) (by simp) ?_
     refine AllReadyL.cons (o:=_) rfl (fun K hK => ?_) AllReadyL.nil
     go_simp
     refine hK.out _ _ (fun _=>⟨zbp (zbp k0 _) _,zbp (zbp k5 _) _⟩) (fun hHeld' => ?_)
     clear hK K
     replace hHeld:=hHeld' (by kernel_rfl)
     clear hHeld'
     try simp only [Act.put,List.setIfInBounds_toArray,List.set_cons_zero,List.set_cons_succ]
     refine znE (i:=11) (oi:=_) (v := ?_) rfl (by kernel_rfl) (by kernel_rfl) (by kernel_rfl) (by kernel_rfl) (fun _ _ _ h=>h) (Or.inl ⟨by rfl,?_⟩) (by assumption) (by kernel_rfl) ?_
     rotate_left
     ·intro w hSw
      try dsimp only at hSw
      go_simp <;> with_reducible rfl
     simp only [Act.put,List.setIfInBounds_toArray]
     refine znD (rs := [12]) (by kernel_rfl) (by simp) ?_
     refine AllReadyL.cons (o:=_) rfl (fun K hK => ?_) AllReadyL.nil
     go_simp
     refine hK.out _ _ (fun _=>⟨zbp (zbp (zbp k0 _) _) _,zbp (zbp (zbp k5 _) _) _⟩) (fun hHeld' => ?_)
     clear hK K
     replace hHeld:=hHeld' (by kernel_rfl)
     clear hHeld'
     try simp only [Act.put,List.setIfInBounds_toArray,List.set_cons_zero,List.set_cons_succ]
     refine znD (rs := [13]) (by kernel_rfl) (by simp) ?_
     refine AllReadyL.cons (o:=_) rfl (fun K hK => ?_) AllReadyL.nil
     go_simp
     refine hK.out _ _ (fun _=>⟨zbp (zbp (zbp (zbp k0 _) _) _) _,zbp (zbp (zbp (zbp k5 _) _) _) _⟩) (fun hHeld' => ?_)
     clear hK K
     replace hHeld:=hHeld' (by kernel_rfl)
     clear hHeld'
     try simp only [Act.put,List.setIfInBounds_toArray,List.set_cons_zero,List.set_cons_succ]
     obtain ⟨wA,hwA⟩:∃ wA:World,wA=((((wr.alloc (.cells (ints (List.replicate n 0)).toArray 3)).alloc (.cells (List.replicate n (Value.bool false)).toArray 4)).alloc (.cells #[.bool false,.slice none 0 0,.int .i64 0,.int .i64 0,.slice none 0 0,.slice (some ⟨wr.heap.size+1,0,none⟩) n n,.slice (some ⟨wr.heap.size,0,none⟩) n n,.slice none 0 0,.int .i64 0,.int .i64 0] 142)).alloc (.cells #[.pointer (some ⟨wr.heap.size+2,0,none⟩)] 138)):=⟨_,rfl⟩
     have HA:=Hid.mk (zdF hwA)
     refine znD (rs := [14]) (by kernel_rfl) (by simp) ?_
     refine AllReadyL.cons (o:=_) rfl (fun K hK => ?_) AllReadyL.nil
     change (if _ then Oper.wp _ _ _ (World.drew ((((wr.alloc (.cells (ints (List.replicate n 0)).toArray 3)).alloc (.cells (List.replicate n (Value.bool false)).toArray 4)).alloc (.cells #[.bool false,.slice none 0 0,.int .i64 0,.int .i64 0,.slice none 0 0,.slice (some ⟨wr.heap.size+1,0,none⟩) n n,.slice (some ⟨wr.heap.size,0,none⟩) n n,.slice none 0 0,.int .i64 0,.int .i64 0] 142)).alloc (.cells #[.pointer (some ⟨wr.heap.size+2,0,none⟩)] 138))) _ _ else _)
     rw [← hwA]
     clear hwA
     have hoA:=(zh5 HOW.out HA.out.bel)
     refine step_append_lies _ rfl _ _ 90 rfl 0 138 i0 _ 1 8 Tryz.underlying90 hi0 hz0 hz1 hz2 rfl (by decide) _ r _ rfl hoA ⟨wr.heap.size+3,0,none⟩ 1 1 [.pointer (some ⟨wr.heap.size+2,0,none⟩)] rfl rfl (World.news_of_block HA.out.b3) (by simp [Value.oneCell']) (by decide) (by unfold maxLen;omega) (by omega) (Nat.zero_le _) wA.heap.size rfl ?_
     intro g capn w3 hown3 hgrow3 hat3 hlt3
     have HP:=Hid.mk (HPU.out (wr.heap.size+1) wr.heap.size _ wA w3 g capn HA.out.bel HA.out.b1 HA.out.b0 HA.out.b2 (by omega) (by omega) (by omega) hown3 (zeq hgrow3) hat3)
     have hg3:=zeq hgrow3
     have k0' := hg3.cell (zaN HA.out.bel k0) HV0.out
     have k5' := hg3.cell (zaN HA.out.bel k5) HV5.out
     have f5' : w3.frozen? ⟨w.heap.size+1,5,none⟩=false:=zaZ ((hg3.block _ (Nat.lt_of_lt_of_le hxl HA.out.bel.size) HV5.out).trans ((HA.out.bel.block _ hxl).trans HBX.out)) 5
     clear hown3 hgrow3 hat3 hoA hg3
     refine hK.out _ _ (fun _=>⟨k0',k5'⟩) (fun hHeld' => ?_)
     clear hK K
     replace hHeld:=hHeld' (by kernel_rfl)
     clear hHeld'
     try simp only [Act.put,List.setIfInBounds_toArray]
     refine znD (rs := [15]) (by kernel_rfl) (by simp) ?_
     refine AllReadyL.cons (o:=_) rfl (fun K hK => ?_) AllReadyL.nil
     go_simp
     refine hK.out _ _ (fun _=>⟨k0',k5'⟩) (fun hHeld' => ?_)
     clear hK K
     replace hHeld:=hHeld' (by kernel_rfl)
     clear hHeld'
     try simp only [Act.put,List.setIfInBounds_toArray,List.set_cons_zero,List.set_cons_succ]
     refine znE (i:=16) (oi:=_) (v := ?_) rfl (by kernel_rfl) (by kernel_rfl) (by kernel_rfl) (by kernel_rfl) (fun _ _ _ h=>h) (Or.inl ⟨by rfl,?_⟩) (by assumption) (by kernel_rfl) ?_
     rotate_left
     ·intro w hSw
      try dsimp only at hSw
      go_simp <;> with_reducible rfl
     simp only [Act.put,List.setIfInBounds_toArray]
     refine znD (rs := [17]) (by kernel_rfl) (by simp) ?_
     refine AllReadyL.cons (o:=_) rfl (fun K hK => ?_) AllReadyL.nil
     go_simp
     refine hK.out _ _ (fun h=>zg4 (by kernel_rfl) h) (fun _ => ?_)
     clear hK K
     try simp only [Act.put,List.setIfInBounds_toArray,List.set_cons_zero,List.set_cons_succ]
     refine znA (by kernel_rfl) ?_ _
     go_wp2
     obtain ⟨e1,e2,e3,e4,e5⟩:=HP.out
     exact ⟨⟨r+1,_,_,_,by omega,by go_num,e1,e2,e3,e4,e5⟩,by simp [intOf];omega⟩
   ·obtain rfl:r=n:=by omega
    have q1:¬ (r:Int)<(r:Int):=by omega
    have HP0:=Hid.mk hpre.out
    have HD:=Hid.mk hDl.out
    have HC0:=Hid.mk hcfg.out
    have HB0:=Hid.mk hbw.out
    have HK0:=Hid.mk hcol.out
    have k1:=hcfg.out.c1
    clear hpre hDl hcfg hbw hcol
    have HR:Hid (0<es.length→∃ b off,ad=some ⟨b,off,none⟩∧b<w.heap.size∧∀ i (h:i<es.length),w.cell? ⟨b,off+i*2,none⟩=some (.int .i64 es[i].1)∧w.cell? ⟨b,off+i*2+1,none⟩=some (.int .i64 es[i].2)):=by
     obtain ⟨ad',cap',hv',-,H⟩:=HE.out
     cases hv'
     exact H
    go_wp2
    clear k0 k1
    go_loopw [6] (fun s wr=>∃ (j:Nat) (f:Nat→Nat→Bool),j≤es.length∧s = .int .i64 j∧Hid (PreAt wr col' o (w.heap.size+1) r rm bp rr vR Ds f)∧Hid (CfgAt wr w.heap.size r ad es.length cap bp rr rm)∧Hid (Below w.heap.size w wr)∧Hid (SymE f∧linkAll r f (es.drop j)=linkAll r noE es)) (fun s _=>es.length - (intOf s).toNat)
    case atStart=>exact ⟨0,noE,Nat.zero_le _,rfl,HP0,HC0,HB0,zmc,rfl⟩
    case round =>
     clear HP0 HC0 HB0
     obtain ⟨j,f,hj,rfl,hpre,hcfg,hbw,hlk⟩:=hrel
     have k0:=hcfg.out.c0
     have k1:=hcfg.out.c1
     by_cases hl:j<es.length
     ·obtain ⟨eb0,off,rfl,hb,hrow⟩:=HR.out (by omega)
      obtain ⟨r0,r1⟩:=hrow j hl
      have c0:=(hbw.out.cell (p:=⟨eb0,off+j*2,none⟩) hb).trans r0
      have c1:=(hbw.out.cell (p:=⟨eb0,off+j*2+1,none⟩) hb).trans r1
      have hlk' := hlk.out.2
      rw [zf0 hl] at hlk'
      clear hrow HR r0 r1
      generalize es[j]=ed at *
      obtain ⟨ea,eb⟩:=ed
      simp only at c0 c1 hlk'
      have q1:(0:Int)≤(j:Int):=by omega
      have q2:(j:Int)<(es.length:Int):=by omega
      have HLK:Hid ((if edgeOk r f ea eb then linkAll r (addE f ea.toNat eb.toNat) (es.drop (j+1)) else none)=linkAll r noE es):=hlk'
      clear hlk'
      have hDr:=HD.out
      obtain ⟨gR,capR,hvR,hR1,hR2,hgRl,hgRc,hRcell,-⟩:=hpre.out.rows.at (by omega)
      have k5:=zaX hpre.out.blk 5
      rw [hvR,hDr] at k5
      simp at k5
      go_upto_region 13 with fail
      go_cut [117] from 66 to 141 (fun s117 wc=>s117 = .bool (!edgeOk r f ea eb)∧wc=wr)
      case first =>
       by_cases hA:ea<0
       ·have hE:edgeOk r f ea eb=false:=by unfold edgeOk;rw [decide_eq_false (by omega)];rfl
        go_wp2
        go_meet
        case rel=>exact ⟨by rw [hE];rfl,rfl⟩
       ·by_cases hB:eb<0
        ·have hE:edgeOk r f ea eb=false:=by unfold edgeOk;rw [decide_eq_false (by omega)];rfl
         go_wp2
         go_meet
         case rel=>exact ⟨by rw [hE];rfl,rfl⟩
        ·by_cases hC:(r:Int)≤ea
         ·have hE:edgeOk r f ea eb=false:=by unfold edgeOk;rw [decide_eq_false (by omega)];rfl
          go_wp2
          go_meet
          case rel=>exact ⟨by rw [hE];rfl,rfl⟩
         ·by_cases hD:(r:Int)≤eb
          ·have hE:edgeOk r f ea eb=false:=by unfold edgeOk;rw [decide_eq_false (by omega)];rfl
           go_wp2
           go_meet
           case rel=>exact ⟨by rw [hE];rfl,rfl⟩
          ·by_cases hEq:ea=eb
           ·have hE:edgeOk r f ea eb=false:=by unfold edgeOk;rw [decide_eq_false (by omega)];rfl
            subst hEq
            go_wp2
            go_meet
            case rel=>exact ⟨by rw [hE];rfl,rfl⟩
           ·obtain ⟨a,rfl⟩:∃ a:Nat,ea=a:=⟨ea.toNat,by omega⟩
            obtain ⟨b,rfl⟩:∃ b:Nat,eb=b:=⟨eb.toNat,by omega⟩
            have hE:edgeOk r f a b = !f a b:=by unfold edgeOk;rw [decide_eq_true (by omega),Bool.true_and,Int.toNat_natCast,Int.toNat_natCast]
            obtain ⟨ga,capa,-,g5,gb,-⟩:=hpre.out.near (a:=a) (b:=b) (by omega) (by omega) (by omega)
            have gp:=hRcell a (.pointer (some ⟨(Ds[a]'(by omega)).ρ,0,none⟩)) (by simp [show a<Ds.length by omega])
            generalize (Ds[a]'(by omega)).ρ=ρa at *
            have q3:(a:Int)<(r:Int):=by omega
            have q4:(b:Int)<(r:Int):=by omega
            have q5:(0:Int)≤(a:Int):=by omega
            have q6:(0:Int)≤(b:Int):=by omega
            clear hRcell
            go_wp2
            go_meet
            case rel=>exact ⟨by rw [hE];simp [hEq],rfl⟩
      case rest =>
       obtain ⟨rfl,rfl⟩:=hcut
       cases hE:edgeOk r f ea eb
       ·have hfin:=HLK.out
        rw [hE,if_neg (by simp)] at hfin
        rw [← hfin] at hnk
        go_wp2
        go_ret2
        first | exact ⟨hbw.out,.inl ⟨hnk,rfl⟩⟩ | exact ⟨hbw.out,rfl⟩
       ·have hfin:=HLK.out
        rw [hE,if_pos rfl] at hfin
        obtain ⟨a,b,rfl,rfl,hal,hbl,hab,hadd⟩:=zcE hE
        rw [hadd] at hfin
        obtain ⟨ga,capa,-,g5,gb,gf,hpre1,hfr1,n1,n2,n3,n0⟩:=hpre.out.near (a:=a) (b:=b) (by omega) (by omega) (by omega)
        have n3' := n3 gR hgRc
        have gp:=hRcell a (.pointer (some ⟨(Ds[a]'(by omega)).ρ,0,none⟩)) (by simp [show a<Ds.length by omega])
        generalize (Ds[a]'(by omega)).ρ=ρa at *
        have q3:(a:Int)<(r:Int):=by omega
        have q4:(b:Int)<(r:Int):=by omega
        have q5:(0:Int)≤(a:Int):=by omega
        have q6:(0:Int)≤(b:Int):=by omega
        have m1:=Ne.symm n1
        have m2:=Ne.symm n2
        have m3:=Ne.symm n3'
        obtain ⟨gb2,capb,-,h5,hb2,hf2,hpre2,hfr2,p1,p2,p3,p0⟩:=hpre1.near (a:=b) (b:=a) (by omega) (by omega) (by omega)
        have hp2:=hRcell b (.pointer (some ⟨(Ds[b]'(by omega)).ρ,0,none⟩)) (by simp [show b<Ds.length by omega])
        generalize (Ds[b]'(by omega)).ρ=ρb at *
        have p3' := p3 gR hgRc
        have o1:=Ne.symm p1
        have o2:=Ne.symm p2
        have o3:=Ne.symm p3'
        have hge1:w.heap.size≤ga:=Nat.le_of_not_lt fun hlt=>hfo ga hlt (by rw [← HK0.out.1 ga hlt,n0])
        have hge2:w.heap.size≤gb2:=Nat.le_of_not_lt fun hlt=>hfo gb2 hlt (by rw [← HK0.out.1 gb2 hlt,p0])
        have HST:Hid (PreAt ((wc.setCell ⟨ga,b,none⟩ (.bool true)).setCell ⟨gb2,a,none⟩ (.bool true)) col' o (w.heap.size+1) r rm bp rr vR Ds (addE f a b)):=hpre2
        have HCF:Hid (CfgAt ((wc.setCell ⟨ga,b,none⟩ (.bool true)).setCell ⟨gb2,a,none⟩ (.bool true)) w.heap.size r (some ⟨eb0,off,none⟩) es.length cap bp rr rm):=hcfg.out.fr ((Below.heap_setCell _ _ _ _ (fun e=>by have:=HK0.out.2;rw [show w.heap.size=gb2 from e,p0] at this;simp at this)).trans (Below.heap_setCell _ _ _ _ (fun e=>by have:=HK0.out.2;rw [show w.heap.size=ga from e,n0] at this;simp at this)))
        have HBL:Hid (Below w.heap.size w ((wc.setCell ⟨ga,b,none⟩ (.bool true)).setCell ⟨gb2,a,none⟩ (.bool true))):=(hbw.out.setCell (p:=⟨ga,b,none⟩) hge1 _).setCell (p:=⟨gb2,a,none⟩) hge2 _
        have HLN:Hid (SymE (addE f a b)∧linkAll r (addE f a b) (es.drop (j+1))=linkAll r noE es):=⟨zmb hlk.out.1 a b,hfin⟩
        clear hpre hcfg hbw hlk hpre1 hpre2 hfr1 hfr2 hfin HLK hRcell hE hadd n3 p3 n0 p0
        go_wp2
        exact ⟨⟨j+1,_,by omega,by go_num,HST,HCF,HBL,HLN⟩,by simp [intOf];omega⟩
     ·have hfin:=hlk.out.2
      rw [zfY (by omega)] at hfin
      have q2:¬ (j:Int)<(es.length:Int):=by omega
      have HOK:=Hid.mk (show newOk (r:Int) (rm:Int) es=true by rw [hnk,← hfin];rfl)
      have HFIN:=Hid.mk hfin
      clear hnk hfin
      go_wp2
      go_ret2
      have hra:RefAt wr col' o (w.heap.size+1) ⟨vR,.slice none 0 0,Ds,[]⟩ (clu0 rm bp rr r f):=hpre.out.done HD.out
      have hfc:FrC (fun _=>False) col col' w wr:=⟨(Fr.refl _ w).below hbw.out,HK0.out.1⟩
      exact ⟨hbw.out,.inr ⟨HOK.out,w.heap.size+1,by rfl,_,_,_,hra,hfc,HFIN.out.symm⟩⟩
 ·have hnk:newOk reps room es=false:=by unfold newOk;rw [decide_eq_false hs];rfl
  have hb0:=zaO (Below.refl _ w) (.cells #[.int .i64 reps,.slice ad es.length cap,.bool bp,.bool rr,.int .i64 room] 24)
  by_cases h1:reps<1
  ·go_wp2
   go_ret2
   first | exact ⟨hb0,.inl ⟨hnk,rfl⟩⟩ | exact ⟨hb0,rfl⟩
  ·by_cases h2:6<reps
   ·go_wp2
    go_ret2
    first | exact ⟨hb0,.inl ⟨hnk,rfl⟩⟩ | exact ⟨hb0,rfl⟩
   ·by_cases h3:room<1
    ·go_wp2
     go_ret2
     first | exact ⟨hb0,.inl ⟨hnk,rfl⟩⟩ | exact ⟨hb0,rfl⟩
    ·have h4:8<room:=by omega
     go_wp2
     go_ret2
     first | exact ⟨hb0,.inl ⟨hnk,rfl⟩⟩ | exact ⟨hb0,rfl⟩
end Go.Proofs.YtahdlejgjcjeoabGreatDoor
