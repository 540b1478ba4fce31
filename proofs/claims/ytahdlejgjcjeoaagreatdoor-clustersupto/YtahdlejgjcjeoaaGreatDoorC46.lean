/- Walk of the law's made, as a game. -/
import Derived.Test.YtahdlejgjcjeoaaGreatDoorC12
import Derived.Test.YtahdlejgjcjeoaaGreatDoorC23
import Derived.Test.YtahdlejgjcjeoaaGreatDoorC45
import Derived.Test.YtahdlejgjcjeoaaGreatDoorC36
namespace Go.Proofs.YtahdlejgjcjeoaaGreatDoor
set_option maxHeartbeats 8000000
open Go.RowKit Go.MuLone
structure FillQ (w wc:World)(x R n r:Nat)(bp rr:Bool)(room:Int)(F:Nat→Nat→Bool):Prop extends FillP w wc x R n r bp rr room F where
 bR:∃ cur,wc.heap[R]? = some (.cells cur 126 (0,0))∧cur.size=n*14
 ms:∃ ms:Nat→Nat,(∀ i,i<r→wc.rangeAt R (i*14) (rec14 (ms i))∧StMap wc (ms i) 0 noMap∧ms i ≠ x∧ms i ≠ R∧w.heap.size≤ms i)∧∀ i j,i<j→j<r→ms i<ms j
theorem MadeP.startQ {w wc:World}{x R n:Nat}{bp rr:Bool}{room:Int}{F:Nat→Nat→Bool}(h:MadeP w wc x R n bp rr room F):FillQ w wc x R n 0 bp rr room F :=
 { h.start with
  bR:=⟨_,h.bR,by rw [List.size_toArray,znX]⟩
  ms:=⟨fun _=>0,fun i hi=>by omega,fun i j _ hj=>by omega⟩ }
theorem FillQ.stepQ {w wc:World}{x R n r:Nat}{bp rr:Bool}{room:Int}{F:Nat→Nat→Bool}(h:FillQ w wc x R n r bp rr room F)(hr:r<n):FillQ w ((wc.alloc (.map #[] 0)).setCells R (r*14) (rec14 wc.heap.size)) x R n (r+1) bp rr room F :=
 { h.toFillP.step hr with
  bR:=by
   obtain ⟨cur,h1,h2⟩:=h.bR
   have h3:(wc.alloc (.map #[] 0)).heap[R]? = some (.cells cur 126 (0,0)):=(((Below.refl wc.heap.size wc).alloc (Nat.le_refl _) _).block R h.ltR).trans h1
   exact ⟨_,zeH (rec14 wc.heap.size) (r*14) h3,by rw [zjy];exact h2⟩
  ms:=by
   obtain ⟨ms,h1,h2⟩:=h.ms
   refine ⟨fun i=>if i=r then wc.heap.size else ms i,fun i hi => ?_,fun i j hij hj => ?_⟩
   ·dsimp only
    by_cases e:i=r
    ·rw [if_pos e]
     subst e
     refine ⟨World.rangeAt_setCells_same _ _ _ _ (World.there_alloc (h.th i hr) _),?_,?_,?_,h.bel.size⟩
     ·exact (zlW wc).kept (zet _ _ _) (fun e=>by have:=h.ltR;have:=Option.some.inj e;omega)
     ·have:=zaX h.bx;omega
     ·have:=h.ltR;omega
    ·rw [if_neg e]
     obtain ⟨g1,g2,g3,g4,g5⟩:=h1 i (by omega)
     refine ⟨World.rangeAt_setCells_apart (World.rangeAt_alloc g1 _) _ _ _ (.inr (.inl ?_)),?_,g3,g4,g5⟩
     ·show i*14+14≤r*14
      omega
     ·exact (g2.kept (World.grownBy_alloc wc _ none) (by simp)).kept (zet _ _ _) (fun e=>g4 (Option.some.inj e))
   ·dsimp only
    rw [if_neg (by omega:¬ i=r)]
    by_cases e:j=r
    ·rw [if_pos e]
     exact (h1 i (by omega)).2.1.lt
    ·rw [if_neg e]
     exact h2 i j hij (by omega) }
set_option maxRecDepth 100000 in
theorem zi9 (v:Value)(es:List (Int × Int))(reps room:Int)(bp rr:Bool)(w:World)(hv:EdgesOf w v es)(hlen:es.length≤1048576) :
  Calls Tryz.prog 24 #[.agg #[.int .i64 reps,v,.bool bp,.bool rr,.int .i64 room]] w fun e w' => Below w.heap.size w w' ∧ ((newOk reps room es=false∧e = .returned (.tuple #[.pointer none,.int .i64 4]))∨(newOk reps room es=true∧∃ x R,e = .returned (.tuple #[.pointer (some ⟨x,0,none⟩),.int .i64 0])∧∃ F,linkAll reps.toNat noE es=some F∧FillQ w w' x R reps.toNat reps.toNat bp rr room F)):=by
 have HE:Hid (EdgesOf w v es):=hv
 obtain ⟨ad,cap,rfl,-⟩:=hv
 go_enter Tryz.func24,Tryz.ntmps24
 go_wp2_with fail
 refine (zlB reps room ad es.length cap bp rr _).mono ?_
 rintro e w1 ⟨rfl,hb1⟩
 have hbw1:Below w.heap.size w w1:=(zaN (Below.refl _ w) _).trans (hb1.mono (by simp))
 have hx1:w1.heap[w.heap.size]? = some (.cells #[.int .i64 reps,.slice ad es.length cap,.bool bp,.bool rr,.int .i64 room] 24 (0,0)):=(hb1.block _ (by simp)).trans (heap_alloc_new w _)
 by_cases hs:1≤reps∧reps≤6∧1≤room∧room≤8
 ·obtain ⟨n,rfl⟩:∃ n:Nat,reps=n:=⟨reps.toNat,by omega⟩
  have hnk:newOk n room es=(linkAll n noE es).isSome:=by unfold newOk;rw [decide_eq_true hs];simp
  have k0:=zaW hx1 0
  have k1:=zaW hx1 1
  have k2:=zaW hx1 2
  have k3:=zaW hx1 3
  have k4:=zaW hx1 4
  simp at k0 k1 k2 k3 k4
  rw [decide_eq_true hs]
  clear hb1
  have HX1:Hid (w1.heap[w.heap.size]? = some (.cells #[.int .i64 n,.slice ad es.length cap,.bool bp,.bool rr,.int .i64 room] 24 (0,0))):=hx1
  clear hx1
  go_wp2_with fail
  refine (zf5 _ es n w1 (HE.out.below hbw1) (by omega) hlen).mono ?_
  rintro e w2 ⟨rfl,hb2⟩
  have hl1:=zaX HX1.out
  have HX2:Hid (w2.heap[w.heap.size]? = some (.cells #[.int .i64 n,.slice ad es.length cap,.bool bp,.bool rr,.int .i64 room] 24 (0,0))):=(hb2.block _ hl1).trans HX1.out
  have hbw2:Below w.heap.size w w2:=hbw1.trans (hb2.mono hbw1.size)
  clear k0 k1 k2 k3 k4 HX1 hb2
  have hz:=heap_alloc_new w2 (.cells (linkB noE).toArray 113)
  generalize hlk:linkAll n noE es=lk at *
  generalize hF:lk.getD noE=F at *
  go_upto_if 20 with (refine wpList_store_row rfl 113 _ _ rfl w2.heap.size (linkB F).toArray rfl rfl _ _ hz (zf4 F) rfl (zf2 F) ?_)
  have hb3:Below w2.heap.size w2 ((w2.alloc (.cells (linkB noE).toArray 113)).setRow w2.heap.size (linkB F).toArray):=(LinkAt.over (w:=w2) hz ((Below.refl _ w2).alloc (Nat.le_refl _) _) F).2
  have hL3:LinkAt ((w2.alloc (.cells (linkB noE).toArray 113)).setRow w2.heap.size (linkB F).toArray) w2.heap.size F:=(LinkAt.over (w:=w2) hz ((Below.refl _ w2).alloc (Nat.le_refl _) _) F).1
  obtain ⟨w3,hw3⟩:∃ w3:World,w3=(w2.alloc (.cells (linkB noE).toArray 113)).setRow w2.heap.size (linkB F).toArray:=⟨_,rfl⟩
  have hsame:∀ W:World,W=(w2.alloc (.cells (linkB noE).toArray 113)).setRow w2.heap.size (linkB F).toArray→W=w3:=fun W h=>h.trans hw3.symm
  rw [← hw3] at hb3 hL3
  change Code.wp _ _ _ _ ((w2.alloc (.cells (linkB noE).toArray 113)).setRow w2.heap.size (linkB F).toArray)
  rw [← hw3]
  clear hw3 hsame hz
  have HB3:Hid (Below w.heap.size w w3):=hbw2.trans (hb3.mono hbw2.size)
  have HX3:Hid (w3.heap[w.heap.size]? = some (.cells #[.int .i64 n,.slice ad es.length cap,.bool bp,.bool rr,.int .i64 room] 24 (0,0))):=(hb3.block _ (zaX HX2.out)).trans HX2.out
  have HL3:Hid (LinkAt w3 w2.heap.size F):=hL3
  clear hb3 hL3 hbw1 hbw2 HX2
  cases lk with
  | none =>
   go_wp2
   go_ret2
   exact ⟨HB3.out,.inl ⟨hnk,rfl⟩⟩
  | some f =>
   go_upto_region 6 with fail
   go_cut [6] from 8 (fun s6 wc=>∃ x R:Nat,s6 = .pointer (some ⟨x,0,none⟩)∧Hid (MadeP w wc x R n bp rr room F))
   case first =>
    have k0:=zaW HX3.out 0
    have k1:=zaW HX3.out 1
    have k2:=zaW HX3.out 2
    have k3:=zaW HX3.out 3
    have k4:=zaW HX3.out 4
    simp at k0 k1 k2 k3 k4
    have hrg:w3.rangeAt w2.heap.size 0 [.bool (F 0 0),.bool (F 0 1),.bool (F 0 2),.bool (F 0 3),.bool (F 0 4),.bool (F 0 5),.bool (F 1 0),.bool (F 1 1),.bool (F 1 2),.bool (F 1 3),.bool (F 1 4),.bool (F 1 5),.bool (F 2 0),.bool (F 2 1),.bool (F 2 2),.bool (F 2 3),.bool (F 2 4),.bool (F 2 5),.bool (F 3 0),.bool (F 3 1),.bool (F 3 2),.bool (F 3 3),.bool (F 3 4),.bool (F 3 5),.bool (F 4 0),.bool (F 4 1),.bool (F 4 2),.bool (F 4 3),.bool (F 4 4),.bool (F 4 5),.bool (F 5 0),.bool (F 5 1),.bool (F 5 2),.bool (F 5 3),.bool (F 5 4),.bool (F 5 5)]:=by
     intro j u hu
     have hj:j<36:=(List.getElem?_eq_some_iff.1 hu).1
     rw [Nat.zero_add,HL3.out.cell j hj,← zf1 F j hj,List.getElem?_toArray]
     exact hu
    have hmk:=fun W=>zgl n (by omega) W
    refine wp_region_held_drew (S:=fun w' => w'.cell? ⟨w.heap.size,0,none⟩=some (.int .i64 n)∧w'.cell? ⟨w.heap.size,2,none⟩=some (.bool bp)∧w'.cell? ⟨w.heap.size,3,none⟩=some (.bool rr)∧w'.cell? ⟨w.heap.size,4,none⟩=some (.int .i64 room)∧w'.rangeAt w2.heap.size 0 [.bool (F 0 0),.bool (F 0 1),.bool (F 0 2),.bool (F 0 3),.bool (F 0 4),.bool (F 0 5),.bool (F 1 0),.bool (F 1 1),.bool (F 1 2),.bool (F 1 3),.bool (F 1 4),.bool (F 1 5),.bool (F 2 0),.bool (F 2 1),.bool (F 2 2),.bool (F 2 3),.bool (F 2 4),.bool (F 2 5),.bool (F 3 0),.bool (F 3 1),.bool (F 3 2),.bool (F 3 3),.bool (F 3 4),.bool (F 3 5),.bool (F 4 0),.bool (F 4 1),.bool (F 4 2),.bool (F 4 3),.bool (F 4 4),.bool (F 4 5),.bool (F 5 0),.bool (F 5 1),.bool (F 5 2),.bool (F 5 3),.bool (F 5 4),.bool (F 5 5)]) (by kernel_rfl) ⟨by simpa using k0,by simpa using k2,by simpa using k3,by simpa using k4,by simpa using hrg⟩ (fun hHeld => ?_)
    refine wpAnyH_take (i:=0) (oi:=_) (v := ?_) rfl (by kernel_rfl) (by kernel_rfl) (by kernel_rfl) (fun _ _ _ h=>h) (Or.inl ⟨by rfl,?_⟩) (by assumption) ?_
    rotate_left
    ·intro w hSw
     try dsimp only at hSw
     go_simp <;> with_reducible rfl
    simp only [Act.put,List.setIfInBounds_toArray]
    refine wpAnyH_take (i:=1) (oi:=_) (v := ?_) rfl (by kernel_rfl) (by kernel_rfl) (by kernel_rfl) (fun _ _ _ h=>h) (Or.inl ⟨by rfl,?_⟩) (by assumption) ?_
    rotate_left
    ·intro w hSw
     try dsimp only at hSw
     go_simp <;> with_reducible rfl
    simp only [Act.put]
    refine wpAnyH_take (i:=2) (oi:=_) (v := ?_) rfl (by kernel_rfl) (by kernel_rfl) (by kernel_rfl) (fun _ _ _ h=>h) (Or.inl ⟨by rfl,?_⟩) (by assumption) ?_
    rotate_left
    ·intro w hSw
     try dsimp only at hSw
     go_simp <;> with_reducible rfl
    simp only [Act.put]
    refine wpAnyH_take (i:=3) (oi:=_) (v := ?_) rfl (by kernel_rfl) (by kernel_rfl) (by kernel_rfl) (fun _ _ _ h=>h) (Or.inl ⟨by rfl,?_⟩) (by assumption) ?_
    rotate_left
    ·intro w hSw
     try dsimp only at hSw
     go_simp <;> with_reducible rfl
    simp only [Act.put]
    refine wpAnyH_take (i:=4) (oi:=_) (v := ?_) rfl (by kernel_rfl) (by kernel_rfl) (by kernel_rfl) (fun _ _ _ h=>h) (Or.inl ⟨by rfl,?_⟩) (by assumption) ?_
    rotate_left
    ·intro w hSw
     try dsimp only at hSw
     go_simp <;> with_reducible rfl
    simp only [Act.put]
    refine wpAnyH_take (i:=5) (oi:=_) (v := ?_) rfl (by kernel_rfl) (by kernel_rfl) (by kernel_rfl) (fun _ _ _ h=>h) (Or.inl ⟨by rfl,?_⟩) (by assumption) ?_
    rotate_left
    ·intro w hSw
     try dsimp only at hSw
     go_simp <;> with_reducible rfl
    simp only [Act.put]
    refine' wpAnyH_take (i:=6) (oi:=_) (v:=_) rfl (by kernel_rfl) (by kernel_rfl) (by kernel_rfl) (fun _ _ _ h=>h) (yieldsIf_load_mid (by rfl) _ _ rfl _ _ rfl [.bool (F 0 0),.bool (F 0 1),.bool (F 0 2),.bool (F 0 3),.bool (F 0 4),.bool (F 0 5),.bool (F 1 0),.bool (F 1 1),.bool (F 1 2),.bool (F 1 3),.bool (F 1 4),.bool (F 1 5),.bool (F 2 0),.bool (F 2 1),.bool (F 2 2),.bool (F 2 3),.bool (F 2 4),.bool (F 2 5),.bool (F 3 0),.bool (F 3 1),.bool (F 3 2),.bool (F 3 3),.bool (F 3 4),.bool (F 3 5),.bool (F 4 0),.bool (F 4 1),.bool (F 4 2),.bool (F 4 3),.bool (F 4 4),.bool (F 4 5),.bool (F 5 0),.bool (F 5 1),.bool (F 5 2),.bool (F 5 3),.bool (F 5 4),.bool (F 5 5)] _ (fun w hSw=>hSw.2.2.2.2) Tryz.underlying113 rfl zfb) (by assumption) ?_
    simp only [Act.put]
    refine wpAnyH_take (i:=7) (oi:=_) (v := ?_) rfl (by kernel_rfl) (by kernel_rfl) (by kernel_rfl) (fun _ _ _ h=>h) (Or.inl ⟨by rfl,?_⟩) (by assumption) ?_
    rotate_left
    ·intro w hSw
     try dsimp only at hSw
     go_simp <;> with_reducible rfl
    simp only [Act.put]
    refine wpAnyH_take (i:=8) (oi:=_) (v := ?_) rfl (by kernel_rfl) (by kernel_rfl) (by kernel_rfl) (fun _ _ _ h=>h) (Or.inl ⟨by rfl,?_⟩) (by assumption) ?_
    rotate_left
    ·intro w hSw
     try dsimp only at hSw
     go_simp <;> with_reducible rfl
    simp only [Act.put]
    refine wpAnyH_ready (rs := [9]) (by kernel_rfl) (by simp) ?_
    refine AllReadyH.cons (o:=_) rfl (fun K hK => ?_) AllReadyH.nil
    go_simp
    refine hK.out _ _ ?_ (fun hHeld => ?_)
    ·exact ⟨zbo k0 _,zbo k2 _,zbo k3 _,zbo k4 _,World.rangeAt_alloc hrg _⟩
    clear hK K
    refine wpAnyH_take (i:=10) (oi:=_) (v := ?_) rfl (by kernel_rfl) (by kernel_rfl) (by kernel_rfl) (fun _ _ _ h=>h) (Or.inl ⟨by rfl,?_⟩) (by assumption) ?_
    rotate_left
    ·intro w hSw
     try dsimp only at hSw
     go_simp <;> with_reducible rfl
    simp only [Act.put,List.setIfInBounds_toArray]
    refine wpAnyH_ready (rs := [11]) (by kernel_rfl) (by simp) ?_
    refine AllReadyH.cons (o:=_) rfl (fun K hK => ?_) AllReadyH.nil
    go_simp
    refine hK.out _ _ ?_ (fun hHeld => ?_)
    ·exact ⟨zbo (zbo k0 _) _,zbo (zbo k2 _) _,zbo (zbo k3 _) _,zbo (zbo k4 _) _,World.rangeAt_alloc (World.rangeAt_alloc hrg _) _⟩
    clear hK K
    refine wpAnyH_take (i:=12) (oi:=_) (v := ?_) rfl (by kernel_rfl) (by kernel_rfl) (by kernel_rfl) (fun _ _ _ h=>h) (Or.inl ⟨by rfl,?_⟩) (by assumption) ?_
    rotate_left
    ·intro w hSw
     try dsimp only at hSw
     go_simp <;> with_reducible rfl
    simp only [Act.put,List.setIfInBounds_toArray]
    refine wpAnyH_done (by kernel_rfl) ?_ _
    go_wp2
    go_meet
    case rel =>
     have h2:=zm0 w3 (.cells (zeros n).toArray 126) (.cells (clB bp rr room F w3.heap.size n).toArray 117)
     have hsz:=HB3.out.size
     exact ⟨w3.heap.size+1,w3.heap.size,rfl,(zaN (zaN HB3.out _) _).drew,h2.1,h2.2,by omega,hsz⟩
   case rest =>
    obtain ⟨x,R,rfl,hmade⟩:=hcut
    have c41:wc.cell? ⟨x,41,none⟩=some (.slice (some ⟨R,0,none⟩) n n):=(zaW hmade.out.bx 41).trans rfl
    clear HX3 HL3 HB3
    go_wp2
    have HS:Hid (FillQ w wc x R n 0 bp rr room F):=hmade.out.startQ
    clear hmade c41
    go_loopw [7,38] (fun _ s wr=>∃ j:Nat,j≤n∧s = .int .i64 j∧Hid (FillQ w wr x R n j bp rr room F)) (fun _ s _=>n - (intOf s).toNat)
    case atStart=>exact ⟨0,Nat.zero_le _,rfl,HS⟩
    case round =>
     clear HS
     obtain ⟨j,hj,rfl,hst⟩:=hrel
     by_cases hl:j<n
     ·have q1:(j:Int)<(n:Int):=by omega
      have q2:(0:Int)≤(j:Int):=by omega
      have c41:wr.cell? ⟨x,41,none⟩=some (.slice (some ⟨R,0,none⟩) n n):=(zaW hst.out.bx 41).trans rfl
      have ht:(wr.alloc (.map #[] 0)).there R (j*14) 14:=World.there_alloc (hst.out.th j hl) _
      have HN:=Hid.mk (hst.out.stepQ hl)
      have hmm:=@run_makeMap Tryz.prog
      obtain ⟨v0,c0⟩:=Option.isSome_iff_exists.1 (ht 0 (by decide)).1
      have f0:=(ht 0 (by decide)).2
      obtain ⟨v1,c1⟩:=Option.isSome_iff_exists.1 (ht 1 (by decide)).1
      have f1:=(ht 1 (by decide)).2
      obtain ⟨v2,c2⟩:=Option.isSome_iff_exists.1 (ht 2 (by decide)).1
      have f2:=(ht 2 (by decide)).2
      obtain ⟨v3,c3⟩:=Option.isSome_iff_exists.1 (ht 3 (by decide)).1
      have f3:=(ht 3 (by decide)).2
      obtain ⟨v4,c4⟩:=Option.isSome_iff_exists.1 (ht 4 (by decide)).1
      have f4:=(ht 4 (by decide)).2
      obtain ⟨v5,c5⟩:=Option.isSome_iff_exists.1 (ht 5 (by decide)).1
      have f5:=(ht 5 (by decide)).2
      obtain ⟨v6,c6⟩:=Option.isSome_iff_exists.1 (ht 6 (by decide)).1
      have f6:=(ht 6 (by decide)).2
      obtain ⟨v7,c7⟩:=Option.isSome_iff_exists.1 (ht 7 (by decide)).1
      have f7:=(ht 7 (by decide)).2
      obtain ⟨v8,c8⟩:=Option.isSome_iff_exists.1 (ht 8 (by decide)).1
      have f8:=(ht 8 (by decide)).2
      obtain ⟨v9,c9⟩:=Option.isSome_iff_exists.1 (ht 9 (by decide)).1
      have f9:=(ht 9 (by decide)).2
      obtain ⟨v10,c10⟩:=Option.isSome_iff_exists.1 (ht 10 (by decide)).1
      have f10:=(ht 10 (by decide)).2
      obtain ⟨v11,c11⟩:=Option.isSome_iff_exists.1 (ht 11 (by decide)).1
      have f11:=(ht 11 (by decide)).2
      obtain ⟨v12,c12⟩:=Option.isSome_iff_exists.1 (ht 12 (by decide)).1
      have f12:=(ht 12 (by decide)).2
      obtain ⟨v13,c13⟩:=Option.isSome_iff_exists.1 (ht 13 (by decide)).1
      have f13:=(ht 13 (by decide)).2
      rw [Nat.add_zero] at c0 f0
      clear ht hst
      go_wp2
      exact ⟨⟨j+1,by omega,by go_num,HN.out⟩,by simp [intOf];omega⟩
     ·obtain rfl:j=n:=by omega
      have q1:¬ (j:Int)<(j:Int):=by omega
      go_wp2
      go_ret2
      have hff:f=F:=hF
      have hQ:FillQ w wr x R j j bp rr room f:=by rw [hff];exact hst.out
      exact ⟨hQ.bel,x,by rfl,R,hQ⟩
 ·have hnk:newOk reps room es=false:=by unfold newOk;rw [decide_eq_false hs];rfl
  rw [decide_eq_false hs]
  clear hb1 hx1
  go_wp2
  go_ret2
  exact ⟨hbw1,.inl ⟨hnk,rfl⟩⟩
open Go.RowKit
def newP (m:Nat):PrD:=⟨true,0,0,m,0,noMap,.slice none 0 0,[],fun _=>0,.slice none 0 0,[],0,0⟩
theorem zgU (m:Nat):(newP m).cells=rec14 m:=rfl
def newPcol (col:Col)(o B x R n:Nat)(ms:Nat→Nat):Col:=fun q =>
 if q<B then col q else if q=x then (o,0) else if q=R then (o,2) else match (List.range n).find? (fun i=>ms i == q) with | some i=>(o,10+i) | none=>(o,9)
theorem FillQ.prgAt {w wc:World}{x R n:Nat}{bp rr:Bool}{room:Int}{F:Nat→Nat→Bool}(h:FillQ w wc x R n n bp rr room F)(hroom:0≤room)(col:Col)(o:Nat) :
  ∃ K col',PrgAt wc col' o x K (clu0 room.toNat bp rr n F)∧∀ S,FrC S col col' w wc:=by
 obtain ⟨ms,hm,hlt⟩:=h.ms
 obtain ⟨cur,hcur,hsz⟩:=h.bR
 have hinj:∀ i j,i<n→j<n→ms i=ms j→i=j:=fun i j hi hj e=>by
  rcases Nat.lt_trichotomy i j with h1 | h1 | h1
  ·have:=hlt i j h1 hj;omega
  ·exact h1
  ·have:=hlt j i h1 hi;omega
 have cX:newPcol col o w.heap.size x R n ms x=(o,0):=by
  unfold newPcol
  rw [if_neg (by have:=h.hx;omega),if_pos rfl]
 have cR:newPcol col o w.heap.size x R n ms R=(o,2):=by
  unfold newPcol
  rw [if_neg (by have:=h.hR;omega),if_neg (fun e=>h.xR e.symm),if_pos rfl]
 have cM:∀ i,i<n→newPcol col o w.heap.size x R n ms (ms i)=(o,10+i):=fun i hi=>by
  obtain ⟨_,_,g3,g4,g5⟩:=hm i hi
  unfold newPcol
  rw [if_neg (by omega),if_neg g3,if_neg g4]
  have hf:(List.range n).find? (fun j=>ms j == ms i)=some i:=by
   rw [List.find?_eq_some_iff_append]
   refine ⟨by simp,List.range i,(List.range (n - i - 1)).map (· + (i+1)),?_,fun a ha => ?_⟩
   ·apply List.ext_getElem
    ·simp;omega
    ·intro k k1 k2
     simp only [List.length_range] at k1
     rcases Nat.lt_trichotomy k i with e | e | e
     ·rw [List.getElem_append_left (by simp;omega)];simp
     ·subst e
      rw [List.getElem_append_right (by simp)];simp
     ·rw [List.getElem_append_right (by simp;omega)]
      simp only [List.length_range,List.getElem_range]
      obtain ⟨d,hd⟩:∃ d,k - i=d+1:=⟨k - i - 1,by omega⟩
      simp only [hd,List.getElem_cons_succ,List.getElem_map,List.getElem_range]
      omega
   ·simp only [List.mem_range] at ha
    simp only [Bool.not_eq_true',beq_eq_false_iff_ne]
    exact fun e=>by have:=hinj a i (by omega) hi e;omega
  rw [hf]
 refine ⟨⟨0,bp,rr,room.toNat,F,R,.slice none 0 0,(List.range n).map fun i=>newP (ms i),[]⟩,newPcol col o w.heap.size x R n ms,⟨?_,?_,?_⟩,fun S=>⟨⟨h.bel.os,h.bel.tape,h.bel.output,h.bel.size,fun q hq _=>h.bel.block q hq⟩,fun q hq=>by unfold newPcol;rw [if_pos hq]⟩⟩
 ·exact {
   blk:=by
    rw [h.bx]
    have e:((room.toNat:Nat):Int)=room:=by omega
    simp [clB,PrK.block,e]
   cx:=cX
   row:=by
    show wc.heap[R]? = some (.cells (((List.range n).map fun i=>newP (ms i)).flatMap PrD.cells).toArray _ _)
    rw [hcur]
    congr 2
    have hl:(((List.range n).map fun i=>newP (ms i)).flatMap PrD.cells).length=n*14:=by rw [zds PrD.cells 14 PrD.cells_length];simp
    apply Array.ext_getElem?
    intro k
    by_cases hk:k<n*14
    ·have hi:k / 14<n:=Nat.div_lt_of_lt_mul (by omega)
     have hj:k % 14<14:=Nat.mod_lt _ (by omega)
     have hkk:k / 14*14+k % 14=k:=by omega
     obtain ⟨g1,_⟩:=hm (k / 14) hi
     have hl14:k % 14<(rec14 (ms (k / 14))).length:=hj
     have hc:=g1 (k % 14) _ (List.getElem?_eq_getElem hl14)
     rw [hkk,zaW hcur] at hc
     rw [hc,List.getElem?_toArray]
     have:=zdr PrD.cells 14 PrD.cells_length ((List.range n).map fun i=>newP (ms i)) (k / 14) (k % 14) (by simpa using hi) hj
     rw [hkk] at this
     rw [this]
     simp only [List.getElem_map,List.getElem_range,zgU]
     rw [List.getElem?_eq_getElem hl14]
    ·rw [Array.getElem?_eq_none (by omega),Array.getElem?_eq_none (by rw [List.size_toArray];omega)]
   cR:=cR
   net:=zkR _ _ _ _ _
   netd:=fun f hf=>by cases hf
   reps:=fun i hi _=>by
    have hi' : i<n:=by simpa using hi
    have e:((List.range n).map fun i=>newP (ms i))[i]=newP (ms i):=by simp
    show PrRep wc _ o i (((List.range n).map fun i=>newP (ms i))[i])
    rw [e]
    exact ⟨(hm i hi').2.1,cM i hi',zkR _ _ _ _ _,(fun e he=>by cases he),zkR _ _ _ _ _⟩ }
 ·exact {
   lk:=rfl
   bp:=rfl
   rr:=rfl
   room:=rfl
   near:=fun _ _ _ _=>rfl
   len:=by simp [clu0]
   nets:=rfl
   reps:=fun i hi=>by
    have hi' : i<n:=by simpa using hi
    have e:((List.range n).map fun i=>newP (ms i))[i]=newP (ms i):=by simp
    have e2:(clu0 room.toNat bp rr n F).rep i=rep0 n:=by simp [Clu.rep,clu0,hi']
    show (((List.range n).map fun i=>newP (ms i))[i]).is _
    rw [e,e2]
    refine ⟨rfl,rfl,rfl,rfl,rfl,fun q hq => ?_,rfl,rfl,rfl⟩
    simp only [newP,rep0,List.getD,List.getElem?_replicate]
    split <;> rfl }
 ·intro i hi
  have hi' : i<n:=by simpa using hi
  have e:((List.range n).map fun i=>newP (ms i))[i]=newP (ms i):=by simp
  show (((List.range n).map fun i=>newP (ms i))[i]).n≤_
  rw [e]
  exact Nat.zero_le _
def MadeG (w:World)(e:Ending)(w' : World):Prop :=
 Below w.heap.size w w' ∧ (e = .returned (.tuple #[.pointer none,.bool true])∨∃ W x y B c,e = .returned (.tuple #[.pointer (some ⟨W,0,none⟩),.bool true])∧Gm (Snap.all w) w' W x y B 0 c∧c.ok [] 0∧c.net = []∧∀ i j,c.reps.length≤j→c.near i j=false)
theorem zgT {reps room:Int}{es:List (Int × Int)}(h:newOk reps room es=true):1≤reps.toNat∧reps.toNat≤6∧0≤room∧1≤room.toNat∧room.toNat≤8:=by
 unfold newOk at h
 simp only [Bool.and_eq_true,decide_eq_true_eq] at h
 omega
theorem zfY {n:Nat}:∀ (l:List (Int × Int)) (f F:Nat→Nat→Bool),(∀ i j,n≤j→f i j=false)→linkAll n f l=some F→∀ i j,n≤j→F i j=false
 | [],f,F,hf,h=>by
  rw [linkAll] at h
  cases h
  exact hf
 | p :: l,f,F,hf,h=>by
  rw [linkAll] at h
  split at h
  ·rename_i he
   refine zfY l _ F (fun i j hj => ?_) h
   unfold edgeOk at he
   simp only [Bool.and_eq_true,decide_eq_true_eq] at he
   unfold addE
   rw [hf i j hj]
   have h1:¬ j=p.2.toNat:=by omega
   have h2:¬ j=p.1.toNat:=by omega
   simp [h1,h2]
  ·cases h
theorem zgf {w w2 w4 w5 wr:World}{room:Int}{n:Nat}{bp rr:Bool}{f:Nat→Nat→Bool}{c' : Col}{K:RefC}{x y R:Nat}(hr:RulesAt w)(hs:StepsAt w)(hb:Below w.heap.size w wr)(hc0:∀ q,q<w.heap.size→c' q=(0,0))(hra:RefAt w2 c' 1 y K (clu0 room.toNat bp rr n f))(hb24:Below w2.heap.size w2 w4)(h4:w2.heap.size<w4.heap.size)(hQ:FillQ w4 w5 x R n n bp rr room f)(hroom:0≤room)(hfr:Fr (fun q=>q=w2.heap.size) w5 wr)(h2:w.heap.size≤w2.heap.size) :
  Gm (Snap.all w) ((wr.alloc (.cells #[.slice none 0 0,.slice none 0 0,.slice none 0 0,.slice none 0 0] 70)).alloc (.cells #[.pointer (some ⟨x,0,none⟩),.pointer (some ⟨y,0,none⟩),.pointer (some ⟨wr.heap.size,0,none⟩)] 48)) (wr.heap.size+1) x y wr.heap.size 0 (clu0 room.toNat bp rr n f):=by
 have hbF:=zaN (zaN (Below.refl _ wr) (.cells #[.slice none 0 0,.slice none 0 0,.slice none 0 0,.slice none 0 0] 70)) (.cells #[.pointer (some ⟨x,0,none⟩),.pointer (some ⟨y,0,none⟩),.pointer (some ⟨wr.heap.size,0,none⟩)] 48)
 have hbk:=(bk_new wr).below (zaN (Below.refl _ _) (.cells #[.pointer (some ⟨x,0,none⟩),.pointer (some ⟨y,0,none⟩),.pointer (some ⟨wr.heap.size,0,none⟩)] 48))
 have hwb:=(zm0 wr (.cells #[.slice none 0 0,.slice none 0 0,.slice none 0 0,.slice none 0 0] 70) (.cells #[.pointer (some ⟨x,0,none⟩),.pointer (some ⟨y,0,none⟩),.pointer (some ⟨wr.heap.size,0,none⟩)] 48)).1
 generalize (wr.alloc (.cells #[.slice none 0 0,.slice none 0 0,.slice none 0 0,.slice none 0 0] 70)).alloc (.cells #[.pointer (some ⟨x,0,none⟩),.pointer (some ⟨y,0,none⟩),.pointer (some ⟨wr.heap.size,0,none⟩)] 48)=wF at *
 have hs5:=hQ.bel.size
 have hsr:=hfr.size
 have f24:FrC (fun _=>False) c' (paint c' w2.heap.size (4,0)) w2 w4:=⟨(Fr.refl _ w2).below hb24,fun q hq=>zim c' _ hq⟩
 obtain ⟨KP,c5,hp5,hf5⟩:=hQ.prgAt hroom (paint c' w2.heap.size (4,0)) 2
 have ce:c5 w2.heap.size=(4,0):=by rw [(hf5 (fun _=>False)).col _ h4];exact zil c' _ (Nat.le_refl _)
 have f5r:FrC (ofOwner 4) c5 c5 w5 wr:=⟨hfr.mono fun q _ (e:q=w2.heap.size)=>by subst e;show (c5 w2.heap.size).1=4;rw [ce],fun _ _=>rfl⟩
 have frF:FrC (fun _=>False) c5 (paint (paint c5 wr.heap.size (3,0)) (wr.heap.size+1) (4,0)) wr wF:=⟨(Fr.refl _ wr).below hbF,fun q hq=>by rw [zim _ _ (by omega),zim _ _ hq]⟩
 have cB:paint (paint c5 wr.heap.size (3,0)) (wr.heap.size+1) (4,0) wr.heap.size=(3,0):=by rw [zim _ _ (by omega),zil _ _ (Nat.le_refl _)]
 have cW:paint (paint c5 wr.heap.size (3,0)) (wr.heap.size+1) (4,0) (wr.heap.size+1)=(4,0):=zil _ _ (Nat.le_refl _)
 have cO:∀ q,q<w.heap.size→paint (paint c5 wr.heap.size (3,0)) (wr.heap.size+1) (4,0) q=(0,0):=fun q hq=>by
  rw [frF.col q (by omega),(hf5 (fun _=>False)).col q (by omega),zim _ _ (by omega),hc0 q hq]
 have hn:∀ κ:Nat × Nat,κ.1 ≠ 4→¬ ofOwner 4 κ:=fun κ e e' => e e'
 have href:=(((hra.kept f24 (fun _=>id)).kept (hf5 (fun _=>False)) (fun _=>id)).kept f5r (fun k=>hn _ (by show (1:Nat) ≠ 4;decide))).kept frF (fun _=>id)
 have hprg:=(hp5.kept f5r (fun k=>hn _ (by show (2:Nat) ≠ 4;decide))).kept frF (fun _=>id)
 have hbw:Below w.heap.size w wF:=hb.trans (hbF.mono hb.size)
 refine ⟨_,K,KP,zhp hbw (fun q hq=>by rw [cO q hq]),⟨hr.block (hbw.block 0 hr.1) hbw.size,hs.block (hbw.block 1 hs.1) hbw.size,cO 0 hr.1,cO 1 hs.1⟩,href,hprg,hwb,by rw [cW],_,_,hbk,fun f _=>Nat.le_refl _,by rw [cB],fun f _ q hq=>(by cases hq),fun f _ p hp=>(by cases hp)⟩
set_option maxRecDepth 100000 in
theorem zge (v:Value)(es:List (Int × Int))(reps room:Int)(bp rr:Bool)(w:World)(hr:RulesAt w)(hst:StepsAt w)(hv:EdgesOf w v es)(hlen:es.length≤1048576) :
  Calls Tryz.prog 12 #[.agg #[.int .i64 reps,v,.bool bp,.bool rr,.int .i64 room]] w (MadeG w):=by
 have HE:=Hid.mk hv
 have HR:=Hid.mk hr
 have HS:=Hid.mk hst
 obtain ⟨ad,cap,rfl,-⟩:=hv
 clear hr hst
 have HRN:Hid (∀ W,Below w.heap.size w W→Calls Tryz.prog 23 #[.agg #[.int .i64 reps,.slice ad es.length cap,.bool bp,.bool rr,.int .i64 room]] W fun e w' => Below W.heap.size W w' ∧ ((newOk reps room es=false∧e = .returned (.tuple #[.pointer none,.int .i64 4]))∨(newOk reps room es=true∧∃ y K f col',e = .returned (.tuple #[.pointer (some ⟨y,0,none⟩),.int .i64 0])∧RefAt w' col' 1 y K (clu0 room.toNat bp rr reps.toNat f)∧FrC (fun _=>False) (fun _=>(0,0)) col' W w' ∧ linkAll reps.toNat noE es=some f))):=fun W hW=>refNew _ es reps room bp rr W (fun _=>(0,0)) 1 (HE.out.below hW) hlen (fun q _=>by decide)
 have hmk:∀ W:World,(Instr.makeSlice 22 (.int .i64 ((es.length:Int)+1)) (.int .i64 ((es.length:Int)+1))).run Tryz.prog W = .ok (.slice (some ⟨W.heap.size,0,none⟩) (es.length+1) (es.length+1)) (W.alloc (.cells ((List.replicate (es.length+1) ((0:Int),(0:Int))).flatMap edC).toArray 53)):=fun W=>zgj (es.length+1) (by omega) W
 have hq0:=heap_alloc_new w (.cells #[.int .i64 reps,.slice ad es.length cap,.bool bp,.bool rr,.int .i64 room] 24)
 go_enter Tryz.func12,Tryz.ntmps12
 go_wp2_with fail
 refine (HRN.out _ (zaN (Below.refl _ _) _)).mono ?_
 rintro e w2 ⟨hb2,hcase⟩
 have hbw2:=(zaN (Below.refl _ w) (.cells #[.int .i64 reps,.slice ad es.length cap,.bool bp,.bool rr,.int .i64 room] 24)).trans (hb2.mono (by simp))
 have hq2:=(hb2.block _ (by simp)).trans hq0
 have hql:w.heap.size<w2.heap.size:=zaX hq2
 have HQ2:=Hid.mk hq2
 have HB2:=Hid.mk hbw2
 clear hq0 HRN hb2 hq2 hbw2
 obtain ⟨p,f',rfl,HC⟩:∃ (p:Option Addr) (f' : Int),e = .returned (.tuple #[.pointer p,.int .i64 f'])∧Hid ((newOk reps room es=false∧p=none∧f' = 4)∨(newOk reps room es=true∧f' = 0∧∃ y K f col',p=some ⟨y,0,none⟩∧RefAt w2 col' 1 y K (clu0 room.toNat bp rr reps.toNat f)∧linkAll reps.toNat noE es=some f∧∀ q,q<w.heap.size→col' q=(0,0))):=by
  rcases hcase with ⟨h1,rfl⟩ | ⟨h1,y,K,f,col',rfl,h2,h3,h4⟩
  ·exact ⟨none,4,rfl,.inl ⟨h1,rfl,rfl⟩⟩
  ·exact ⟨_,0,rfl,.inr ⟨h1,rfl,y,K,f,col',rfl,h2,h4,fun q hq=>h3.col q (by simp;omega)⟩⟩
 clear hcase
 have k1:=zaW HQ2.out 1
 simp at k1
 have hin0:InAt (w2.alloc (.cells ((List.replicate (es.length+1) ((0:Int),(0:Int))).flatMap edC).toArray 53)) w2.heap.size (List.replicate (es.length+1) (0,0)):=heap_alloc_new w2 _
 have hed0:EdgesOf (w2.alloc (.cells ((List.replicate (es.length+1) ((0:Int),(0:Int))).flatMap edC).toArray 53)) (.slice ad es.length cap) es:=HE.out.below (zaN HB2.out _)
 have HNQ:=Hid.mk (show w.heap.size ≠ w2.heap.size by omega)
 have hne1:¬ w.heap.size=w2.heap.size:=by omega
 have hne2:¬ w2.heap.size=w.heap.size:=by omega
 have hn0:(0:Int)≤(es.length:Int):=by omega
 have hn1:(es.length:Int)<(es.length:Int)+1:=by omega
 go_wp2_with (refine znI rfl _ _ 22 22 rfl Tryz.underlying22 zlA w2.heap.size (es.length+1) (es.length+1) _ (by simp) rfl hin0 _ rfl es hed0 (by simp) ?_;intro w3 hin3 hg3;have kq3:=(hg3.block w.heap.size (by simp;omega) (fun e=>HNQ.out (Option.some.inj e))).trans ((((Below.refl _ w2).alloc (Nat.le_refl _) _).block _ hql).trans HQ2.out);obtain ⟨i0,i1,ifz⟩:=hin3.cells es.length (by simp);have q0:w3.cell? ⟨w.heap.size,0,none⟩=some (.int .i64 reps):=zaW kq3 0;have q1:w3.cell? ⟨w.heap.size,1,none⟩=some (.slice ad es.length cap):=zaW kq3 1;have q2:w3.cell? ⟨w.heap.size,2,none⟩=some (.bool bp):=zaW kq3 2;have q3:w3.cell? ⟨w.heap.size,3,none⟩=some (.bool rr):=zaW kq3 3;have q4:w3.cell? ⟨w.heap.size,4,none⟩=some (.int .i64 room):=zaW kq3 4)
 have hl3:(es ++ (List.replicate (es.length+1) ((0:Int),(0:Int))).drop es.length).length=es.length+1:=by simp
 have HI4:=Hid.mk ((hin3.set es.length (by rw [hl3];omega) (-9,0)).below (zaN (Below.refl _ _) (.cells #[.int .i64 reps,.slice (some ⟨w2.heap.size,0,none⟩) es.length (es.length+1),.bool bp,.bool rr,.int .i64 room] 24)))
 have hg34:w3.grownBy ((w3.setCell ⟨w2.heap.size,es.length*2,none⟩ (.int .i64 (-9))).setCell ⟨w2.heap.size,es.length*2+1,none⟩ (.int .i64 0)) (some w2.heap.size):=zeu (zes w3 ⟨w2.heap.size,es.length*2,none⟩ (.int .i64 (-9))) (zes _ ⟨w2.heap.size,es.length*2+1,none⟩ (.int .i64 0))
 have hb24:Below w2.heap.size w2 (((w3.setCell ⟨w2.heap.size,es.length*2,none⟩ (.int .i64 (-9))).setCell ⟨w2.heap.size,es.length*2+1,none⟩ (.int .i64 0)).alloc (.cells #[.int .i64 reps,.slice (some ⟨w2.heap.size,0,none⟩) es.length (es.length+1),.bool bp,.bool rr,.int .i64 room] 24)):=by
  refine Below.alloc ((((Below.refl _ w2).alloc (Nat.le_refl _) _).grown hg3 (by simp) (fun k hk=>by cases hk;exact Nat.le_refl _)).grown hg34 (Nat.le_trans (by simp) hg3.size) (fun k hk=>by cases hk;exact Nat.le_refl _)) (Nat.le_trans (Nat.le_trans (by simp) hg3.size) hg34.size) _
 have hs4:w2.heap.size<(((w3.setCell ⟨w2.heap.size,es.length*2,none⟩ (.int .i64 (-9))).setCell ⟨w2.heap.size,es.length*2+1,none⟩ (.int .i64 0)).alloc (.cells #[.int .i64 reps,.slice (some ⟨w2.heap.size,0,none⟩) es.length (es.length+1),.bool bp,.bool rr,.int .i64 room] 24)).heap.size:=zaX HI4.out
 have hl4:((es ++ (List.replicate (es.length+1) ((0:Int),(0:Int))).drop es.length).set es.length (-9,0))=es ++ [(-9,0)]:=by
  apply List.ext_getElem? 
  intro t
  rw [List.getElem?_set]
  by_cases ht:es.length=t
  ·subst ht
   simp
  ·rw [if_neg ht]
   by_cases h2:t<es.length
   ·rw [List.getElem?_append_left h2,List.getElem?_append_left h2]
   ·rw [List.getElem?_eq_none (by rw [hl3];omega),List.getElem?_eq_none (by simp;omega)]
 rw [hl4] at HI4
 have HED:=Hid.mk (HI4.out.edges (es:=es) (cap:=es.length+1) (by simp) (by simp) (by omega))
 have HB24:=Hid.mk hb24
 generalize ((w3.setCell ⟨w2.heap.size,es.length*2,none⟩ (.int .i64 (-9))).setCell ⟨w2.heap.size,es.length*2+1,none⟩ (.int .i64 0)).alloc (.cells #[.int .i64 reps,.slice (some ⟨w2.heap.size,0,none⟩) es.length (es.length+1),.bool bp,.bool rr,.int .i64 room] 24)=w4 at *
 clear hl3 hl4 hg34 hb24 hg3 hin3 kq3 q0 q1 q2 q3 q4 i0 i1 ifz hin0 hed0 hmk k1
 refine (zi9 _ es reps room bp rr w4 HED.out hlen).mono ?_
 rintro e w5 ⟨hb5,hcase⟩
 have HI5:=Hid.mk (HI4.out.below hb5)
 have HB25:=Hid.mk (HB24.out.trans (hb5.mono (Nat.le_of_lt hs4)))
 have hs5:=hb5.size
 have HQ5:=Hid.mk ((HB25.out.block _ hql).trans HQ2.out)
 clear hb5 HI4 HED
 obtain ⟨p2,f2,rfl,HC2⟩:∃ (p:Option Addr) (f' : Int),e = .returned (.tuple #[.pointer p,.int .i64 f'])∧Hid ((newOk reps room es=false∧p=none∧f' = 4)∨(newOk reps room es=true∧f' = 0∧∃ x R,p=some ⟨x,0,none⟩∧∃ F,linkAll reps.toNat noE es=some F∧FillQ w4 w5 x R reps.toNat reps.toNat bp rr room F)):=by
  rcases hcase with ⟨h1,rfl⟩ | ⟨h1,x,R,rfl,h2⟩
  ·exact ⟨none,4,rfl,.inl ⟨h1,rfl,rfl⟩⟩
  ·exact ⟨_,0,rfl,.inr ⟨h1,rfl,x,R,rfl,h2⟩⟩
 clear hcase
 obtain ⟨i0,-,-⟩:=HI5.out.cells es.length (by simp)
 simp at i0
 have hpp:f2=f' ∧ (p2.isNone=p.isNone):=by
  rcases HC.out with ⟨a1,rfl,rfl⟩ | ⟨a1,rfl,y,K,f,c',rfl,_,_⟩
  ·rcases HC2.out with ⟨b1,rfl,rfl⟩ | ⟨b1,_⟩
   ·exact ⟨rfl,rfl⟩
   ·rw [a1] at b1;cases b1
  ·rcases HC2.out with ⟨b1,_⟩ | ⟨b1,rfl,x,R,rfl,_⟩
   ·rw [a1] at b1;cases b1
   ·exact ⟨rfl,rfl⟩
 obtain ⟨rfl,hpn⟩:=hpp
 have hWa:Below w.heap.size w w5:=HB2.out.trans (HB25.out.mono (Nat.le_of_lt hql))
 have HEW:Hid (0<es.length→∃ b off,ad=some ⟨b,off,none⟩∧b<w.heap.size∧∀ i (h:i<es.length),w.cell? ⟨b,off+i*2,none⟩=some (.int .i64 es[i].1)∧w.cell? ⟨b,off+i*2+1,none⟩=some (.int .i64 es[i].2)):=by
  obtain ⟨ad',cap',hv',-,H⟩:=HE.out
  cases hv'
  exact H
 have HWA:=Hid.mk hWa
 clear hWa
 go_wp2
 go_loopw [11] (fun s wr=>∃ (j:Nat) (l:List (Int × Int)),j≤es.length∧s = .int .i64 j∧Hid (InAt wr w2.heap.size l)∧Hid (l.length=es.length+1∧∀ k (h:k<es.length),j≤k→l[k]? = some es[k])∧Hid (Fr (fun q=>q=w2.heap.size) w5 wr)) (fun s _=>es.length - (intOf s).toNat)
 case atStart=>exact ⟨0,_,Nat.zero_le _,rfl,HI5,⟨by simp,fun k h _=>by rw [List.getElem?_append_left h,List.getElem?_eq_getElem h]⟩,Fr.refl _ _⟩
 case round =>
  clear HI5 i0
  obtain ⟨j,l,hj,rfl,hin,hl,hfr⟩:=hrel
  have HBr:Hid (Below w2.heap.size w2 wr):=⟨hfr.out.os.trans HB25.out.os,hfr.out.tape.trans HB25.out.tape,hfr.out.output.trans HB25.out.output,Nat.le_trans HB25.out.size hfr.out.size,fun k hk=>(hfr.out.block k (Nat.lt_of_lt_of_le hk HB25.out.size) (by omega)).trans (HB25.out.block k hk)⟩
  by_cases hlt:j<es.length
  ·obtain ⟨b,off,rfl,hb,hrow⟩:=HEW.out (by omega)
   obtain ⟨r0,r1⟩:=hrow j hlt
   have hbwr:Below w.heap.size w wr:=HB2.out.trans (HBr.out.mono (Nat.le_of_lt hql))
   have c0:=(hbwr.cell (p:=⟨b,off+j*2,none⟩) hb).trans r0
   have c1:=(hbwr.cell (p:=⟨b,off+j*2+1,none⟩) hb).trans r1
   have hql2:(wr.heap[w.heap.size]?)=some (.cells #[.int .i64 reps,.slice (some ⟨b,off,none⟩) es.length cap,.bool bp,.bool rr,.int .i64 room] 24 (0,0)):=(HBr.out.block _ hql).trans HQ2.out
   have k1:=zaW hql2 1
   simp at k1
   have hjl:j<l.length:=by rw [hl.out.1];omega
   have hlj:l[j]=es[j]:=by
    have:=hl.out.2 j hlt (Nat.le_refl _)
    rw [List.getElem?_eq_getElem hjl] at this
    exact Option.some.inj this
   obtain ⟨d0,d1,df⟩:=hin.out.cells j hjl
   rw [hlj] at d0 d1
   generalize es[j].1=ea at *
   generalize es[j].2=eb at *
   have qa:(0:Int)≤(j:Int):=by omega
   have qb:(j:Int)<(es.length:Int):=by omega
   have qc:(j:Int)<(es.length:Int)+1:=by omega
   have hbl:b<wr.heap.size:=Nat.lt_of_lt_of_le hb hbwr.size
   have hbg:b ≠ w2.heap.size:=by omega
   have HJL:=Hid.mk hjl
   clear hrow r0 r1 hbwr hql2 hlj HEW hjl
   go_wp2
   go_quiet (fail)
   obtain ⟨V,hV⟩:∃ V:World,V=wr.drewN nq:=⟨_,rfl⟩
   rw [← hV]
   have hbV:Below wr.heap.size wr V:=by rw [hV];exact below_drewN (Below.refl _ _) _
   clear hV
   have hinV:=hin.out.below hbV
   have hfrV:=hfr.out.below hbV
   have HSET:=Hid.mk (hinV.set j HJL.out (-9,0))
   obtain ⟨v0,v1,vf⟩:=hinV.cells j HJL.out
   have HLN:Hid ((l.set j (-9,0)).length=es.length+1∧∀ k (h:k<es.length),j+1≤k→(l.set j (-9,0))[k]? = some es[k]):=⟨by rw [List.length_set];exact hl.out.1,fun k h hk=>by rw [List.getElem?_set_ne (by omega)];exact hl.out.2 k h (by omega)⟩
   have HFR:Hid (Fr (fun q=>q=w2.heap.size) w5 ((V.setCell ⟨w2.heap.size,j*2,none⟩ (.int .i64 (-9))).setCell ⟨w2.heap.size,j*2+1,none⟩ (.int .i64 0))):=(hfrV.step (zes V ⟨w2.heap.size,j*2,none⟩ (.int .i64 (-9))) (fun q hq=>by cases hq;exact .inr rfl)).step (zes _ ⟨w2.heap.size,j*2+1,none⟩ (.int .i64 0)) (fun q hq=>by cases hq;exact .inr rfl)
   clear hin hfr hl hinV hfrV hbV d0 d1 df c0 c1 k1 HBr
   go_wp2
   exact ⟨⟨j+1,_,by omega,by go_num,HSET,HLN,HFR⟩,by simp [intOf];omega⟩
  ·have qb:¬ (j:Int)<(es.length:Int):=by omega
   have hbwr:Below w.heap.size w wr:=HB2.out.trans (HBr.out.mono (Nat.le_of_lt hql))
   have HBW:=Hid.mk hbwr
   clear hbwr
   cases hok:newOk reps room es
   ·obtain ⟨rfl,rfl,rfl⟩:p=none∧p2=none∧f2=4:=by
     rcases HC.out with ⟨-,rfl,rfl⟩ | ⟨a1,_⟩
     ·rcases HC2.out with ⟨-,rfl,-⟩ | ⟨b1,_⟩
      ·exact ⟨rfl,rfl,rfl⟩
      ·rw [hok] at b1;cases b1
     ·rw [hok] at a1;cases a1
    clear hin hfr hl HC HC2
    go_wp2
    go_ret2
    exact ⟨HBW.out,.inl rfl⟩
   ·obtain ⟨y,K,f,c',rfl,hra,hfl,hc0⟩:∃ y K f col',p=some ⟨y,0,none⟩∧RefAt w2 col' 1 y K (clu0 room.toNat bp rr reps.toNat f)∧linkAll reps.toNat noE es=some f∧∀ q,q<w.heap.size→col' q=(0,0):=by
     rcases HC.out with ⟨a1,_⟩ | ⟨-,-,h⟩
     ·rw [hok] at a1;cases a1
     ·exact h
    obtain ⟨x,R,rfl,F,hF,hQ⟩:∃ x R,p2=some ⟨x,0,none⟩∧∃ F,linkAll reps.toNat noE es=some F∧FillQ w4 w5 x R reps.toNat reps.toNat bp rr room F:=by
     rcases HC2.out with ⟨a1,_⟩ | ⟨-,-,h⟩
     ·rw [hok] at a1;cases a1
     ·exact h
    obtain rfl:f=F:=Option.some.inj (hfl.symm.trans hF)
    have HFAR:Hid (∀ i j,(clu0 room.toNat bp rr reps.toNat f).reps.length≤j→(clu0 room.toNat bp rr reps.toNat f).near i j=false):=fun i j hj=>zfY es noE f (fun _ _ _=>rfl) hfl i j (by simpa [clu0] using hj)
    have HFIN:=Hid.mk (zgf HR.out HS.out HBW.out hc0 hra HB24.out hs4 hQ (zgT hok).2.2.1 hfr.out (Nat.le_of_lt hql))
    clear hin hfr hl HC HC2 hra hfl hc0 hF hQ
    go_wp2
    go_ret2
    exact ⟨zaN (zaN HBW.out _) _,.inr ⟨_,_,_,_,_,by rfl,HFIN.out,zbZ _ _ _ (zgT hok).1 (zgT hok).2.1 (zgT hok).2.2.2.1 (zgT hok).2.2.2.2,by rfl,HFAR.out⟩⟩
end Go.Proofs.YtahdlejgjcjeoaaGreatDoor
