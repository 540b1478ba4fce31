/- The program's Deliver: a frame arrives. -/
import Derived.Test.YtahdlejgjcjeoabGreatDoorA41
namespace Go.Proofs.YtahdlejgjcjeoabGreatDoor
set_option maxHeartbeats 8000000
open Go.RowKit Go.MuLone
def ackP (ak:Nat→Nat)(q u:Nat):Nat→Nat:=fun j=>if j=q then max (ak q) u else ak j
def leastN (nb:Nat→Bool)(ak:Nat→Nat)(m k:Nat):Nat:=(List.range k).foldl (fun m q=>if nb q && decide (ak q<m) then ak q else m) m
theorem zfO (nb:Nat→Bool)(ak:Nat→Nat)(m k:Nat):leastN nb ak m (k+1)=if nb k && decide (ak k<leastN nb ak m k) then ak k else leastN nb ak m k:=by
 unfold leastN
 rw [List.range_succ,List.foldl_append]
 rfl
theorem zfN (nb:Nat→Bool)(ak:Nat→Nat)(m:Nat):∀ k,leastN nb ak m k≤m
 | 0=>Nat.le_refl _
 | k+1=>by
  have ih:=zfN nb ak m k
  rw [zfO]
  split
  ·rename_i h
   simp only [Bool.and_eq_true,decide_eq_true_eq] at h
   omega
  ·exact ih
theorem zeY (b:Nat)(w:World) :
  Calls Tryz.prog 201 #[.slice none 0 0,.func (.func 182) #[] #[.pointer (some ⟨b,0,none⟩)]] w fun e w' => e = .returned (.int .i64 (-1))∧w' = w:=by
 go_enter Tryz.func201,Tryz.ntmps201
 go_wp2
 go_loopw [8] (fun s wr=>s = .int .i64 0∧wr=w) (fun _ _=>0)
 case atStart=>exact ⟨rfl,rfl⟩
 case round =>
  obtain ⟨rfl,rfl⟩:=hrel
  go_wp2
  go_ret
  exact ⟨rfl,rfl⟩
theorem zcj (b:Nat)(w:World) :
  Calls Tryz.prog 181 #[.slice none 0 0,.func (.func 182) #[] #[.pointer (some ⟨b,0,none⟩)]] w fun e w' => e = .returned (.slice none 0 0)∧w' = w:=by
 go_enter Tryz.func181,Tryz.ntmps181
 go_wp2_with fail
 refine (zeY b w).mono ?_
 rintro e w1 ⟨rfl,rfl⟩
 go_wp2
 go_ret
 exact ⟨rfl,rfl⟩
theorem PrI.delF {w:World}{col:Col}{o x i b L:Nat}{K:PrK}{D:PrD}(h:PrI w col o x i K D)(hb:w.cell? ⟨b,0,none⟩=some (.int .i64 L))(hcb:col b=(o,1))(hes:D.es.length≤1024) :
  Calls Tryz.prog 181 #[D.vb,.func (.func 182) #[] #[.pointer (some ⟨b,0,none⟩)]] w fun e w' => ∃ vb',e = .returned vb' ∧ w'.cell? ⟨K.R,i*14+4,none⟩=some D.vb∧w'.frozen? ⟨K.R,i*14+4,none⟩=false∧(w'.setCell ⟨K.R,i*14+4,none⟩ vb').cell? ⟨b,0,none⟩=some (.int .i64 L) ∧
   Hid (PrI (w'.setCell ⟨K.R,i*14+4,none⟩ vb') col o x i K { D with vb:=vb',es:=D.es.filter (keepE L) })∧Hid (FrC (ofPrg o i) col col w (w'.setCell ⟨K.R,i*14+4,none⟩ vb')):=by
 have hbl:=World.block_lt_of_cell? w ⟨b,0,none⟩ hb
 have hi6:i<6:=Nat.lt_of_lt_of_le h.hi h.h6
 have hbR:K.R ≠ b:=fun e=>by
  have h1:col K.R=(o,2):=h.b.cR
  rw [e,hcb] at h1
  cases h1
 have fin:∀ (w' : World) (vb' : Value),FrC (fun x=>x=(o,20+i)) col col w w' → RowC w' col (o,20+i) 85 3 vb' (D.es.filter (keepE L)).length ((D.es.filter (keepE L)).flatMap Pe.cells)→w'.cell? ⟨K.R,i*14+4,none⟩=some D.vb∧w'.frozen? ⟨K.R,i*14+4,none⟩=false∧(w'.setCell ⟨K.R,i*14+4,none⟩ vb').cell? ⟨b,0,none⟩=some (.int .i64 L) ∧
   Hid (PrI (w'.setCell ⟨K.R,i*14+4,none⟩ vb') col o x i K { D with vb:=vb',es:=D.es.filter (keepE L) })∧Hid (FrC (ofPrg o i) col col w (w'.setCell ⟨K.R,i*14+4,none⟩ vb')):=fun w' vb' hf hr=>by
  have hblk:w'.heap[K.R]? = w.heap[K.R]? := hf.fr.block _ h.ltR (by rw [show col K.R=(o,2) from h.b.cR];exact neκ (by omega))
  have hbb:w'.heap[b]? = w.heap[b]? := hf.fr.block _ hbl (by rw [hcb];exact neκ (by omega))
  obtain ⟨h4,h5⟩:=h.newBuf (vb:=vb') (es:=D.es.filter (keepE L)) hf hr (fun e he=>(h.p.ed e (List.mem_filter.1 he).1).kept hf (neκ (by omega)))
  refine ⟨(World.cell?_of_block (w:=w) hblk).trans h.cells.c4,by have:=h.cells.fz (i*14+4);simpa [World.frozen?,hblk] using this,?_,h4,h5⟩
  rw [World.cell?_setCell_other _ _ _ _ (by simp [])]
  exact (World.cell?_of_block (w:=w) (a:=⟨b,0,none⟩) hbb).trans hb
 have hrow:=h.p.buf
 rcases hrow.own.2 with ⟨h0,hl0⟩ | ⟨g,cap,cur,hv,-⟩
 ·have hl:D.es = []:=List.length_eq_zero_iff.1 hl0
  rw [h0]
  refine (zcj b w).mono ?_
  rintro e w' ⟨rfl,rfl⟩
  have:=fin w' (.slice none 0 0) (FrC.refl _ _ _) (by rw [hl];exact zkR _ _ _ _ _)
  rw [h0] at this
  exact ⟨_,rfl,this⟩
 ·rw [hv] at hrow ⊢
  have hbg:b ≠ g:=fun e=>by
   have h1:=hrow.col g rfl
   rw [← e,hcb] at h1
   have:=congrArg Prod.snd h1
   simp only at this
   omega
  refine (zci g cap b L D.es w hrow (fun e he=>by obtain ⟨ad,cp,hv,-⟩:=h.p.ed e he;exact ⟨ad,cp,hv⟩) hb hbg hes).mono ?_
  rintro e w' ⟨rfl,hr,hf⟩
  have:=fin w' _ hf.out hr.out
  rw [hv] at this
  exact ⟨_,rfl,this⟩
set_option maxRecDepth 100000 in
theorem zi6 {w:World}{col:Col}{o x i:Nat}{K:PrK}{D:PrD}(h:PrI w col o x i K D)(fr u:Nat)(hf:fr<6)(hu:u≤4194304)(hak:∀ q,q<6→D.ak q≤4194304)(_hbs:D.base≤4194304)(nb:Nat→Bool)(hes:D.es.length≤1024) :
  Calls Tryz.prog 146 #[.pointer (some ⟨K.R,i*14,none⟩),.int .i64 fr,.int .i64 u,.agg #[.bool (nb 0),.bool (nb 1),.bool (nb 2),.bool (nb 3),.bool (nb 4),.bool (nb 5)]] w fun e w' => e = .returned (.tuple #[])∧∃ col' vb',Hid (PrI w' col' o x i K { D with ak:=ackP D.ak fr u,vb:=vb',es:=D.es.filter (keepE (leastN nb (ackP D.ak fr u) (ackP D.ak fr u fr) 6)),base:=max D.base (leastN nb (ackP D.ak fr u) (ackP D.ak fr u fr) 6) })∧Hid (FrC (ofPrg o i) col col' w w'):=by
 have hR0:=h.ltR
 have hbA:=zaO (Below.refl _ w) (.cells #[.bool (nb 0),.bool (nb 1),.bool (nb 2),.bool (nb 3),.bool (nb 4),.bool (nb 5)] 102)
 have hnb:=heap_alloc_new w (.cells #[.bool (nb 0),.bool (nb 1),.bool (nb 2),.bool (nb 3),.bool (nb 4),.bool (nb 5)] 102)
 have h1:=h.same hbA
 have HF1:Hid (FrC (ofPrg o i) col col w _):=zdJ hbA
 have ca:=h1.cells.ak fr hf
 have e5:i*14+(5+fr)=i*14+5+fr:=by omega
 rw [e5] at ca
 have hfi:(fr:Int)<6:=by omega
 have hf0:(0:Int)≤fr:=by omega
 have hfz:=h1.cells.fz
 have hR:=h1.ltR
 have zf:=hfz (i*14+5+fr)
 have hafr:=hak fr hf
 have HI1:=Hid.mk h1
 have HNB:=Hid.mk hnb
 clear h h1 hbA hnb hfz
 go_enter Tryz.func146,Tryz.ntmps146
 go_wp2
 generalize w.alloc (.cells #[.bool (nb 0),.bool (nb 1),.bool (nb 2),.bool (nb 3),.bool (nb 4),.bool (nb 5)] 102)=w1 at *
 go_cut [] from 11 (fun wc=>Hid (PrI wc col o x i K { D with ak:=ackP D.ak fr u }∧FrC (ofPrg o i) col col w wc∧wc.heap[w.heap.size]? = some (.cells #[.bool (nb 0),.bool (nb 1),.bool (nb 2),.bool (nb 3),.bool (nb 4),.bool (nb 5)] 102 (0,0))))
 case first =>
  have HPT:Hid (∀ W,Below w1.heap.size w1 W→PrI (W.setCell ⟨K.R,i*14+5+fr,none⟩ (.int .i64 (max (D.ak fr:Int) (u:Int)))) col o x i K { D with ak:=ackP D.ak fr u }∧FrC (ofPrg o i) col col w (W.setCell ⟨K.R,i*14+5+fr,none⟩ (.int .i64 (max (D.ak fr:Int) (u:Int))))∧(W.setCell ⟨K.R,i*14+5+fr,none⟩ (.int .i64 (max (D.ak fr:Int) (u:Int)))).heap[w.heap.size]? = some (.cells #[.bool (nb 0),.bool (nb 1),.bool (nb 2),.bool (nb 3),.bool (nb 4),.bool (nb 5)] 102 (0,0))):=fun W hW=>by
   have hI:=HI1.out.same hW
   obtain ⟨a1,a2⟩:=hI.put (k:=5+fr) (u := .int .i64 (max (D.ak fr:Int) (u:Int))) (by omega) { D with ak:=ackP D.ak fr u } (by
    have hmx:((max (D.ak fr) u:Nat):Int)=max (D.ak fr:Int) (u:Int):=by omega
    rcases (by omega:fr=0∨fr=1∨fr=2∨fr=3∨fr=4∨fr=5) with rfl | rfl | rfl | rfl | rfl | rfl <;> simp [PrD.cells,ackP,← hmx]) rfl rfl rfl rfl rfl rfl rfl
   rw [e5] at a1 a2
   refine ⟨a1,(HF1.out.trans (zdJ hW)).trans a2,?_⟩
   have hb:=zaY HNB.out
   refine ((zet W _ _).block _ (Nat.lt_of_lt_of_le hb hW.size) (fun e => ?_)).trans ((hW.block _ hb).trans HNB.out)
   have he:w.heap.size=K.R:=Option.some.inj e
   omega
  clear HI1 HNB HF1
  go_region
  all_goals go_wp2
  all_goals go_meet
  all_goals (case rel=>first | exact HPT.out _ (Below.refl _ _).drew | exact HPT.out _ (Below.refl _ _))
 case rest =>
  obtain ⟨hI2,hF2,hN2⟩:=hcut.out
  generalize wc=w2 at *
  clear HI1 HNB HF1 ca zf hcut
  have hA:=fun q hq=>hI2.cells.ak q hq
  have hakA:∀ q,q<6→ackP D.ak fr u q≤4194304:=fun q hq=>by
   have:=hak q hq
   unfold ackP
   split <;> omega
  simp only at hA
  generalize hAA:ackP D.ak fr u=A at *
  have a0:=hA 0 (by omega)
  have a1:=hA 1 (by omega)
  have a2:=hA 2 (by omega)
  have a3:=hA 3 (by omega)
  have a4:=hA 4 (by omega)
  have a5:=hA 5 (by omega)
  have af:=hA fr hf
  rw [e5] at af
  have hR2:K.R<w2.heap.size:=hI2.ltR
  have hne1:K.R ≠ w2.heap.size:=by omega
  have hne2:¬ w2.heap.size=K.R:=by omega
  have hNl:w.heap.size<w2.heap.size:=zaY hN2
  have hne3:¬ w2.heap.size=w.heap.size:=by omega
  have hne4:¬ w.heap.size=w2.heap.size:=by omega
  have HI2:=Hid.mk hI2
  have HF2:=Hid.mk hF2
  have HN2:=Hid.mk hN2
  clear hA hI2 hF2 hN2
  simp only [Nat.add_zero,← Nat.add_assoc] at a0 a1 a2 a3 a4 a5
  go_wp2
  have hB3:=heap_alloc_new w2 (.cells #[.int .i64 (A fr)] 3)
  have HB3:=Hid.mk (zaO (Below.refl _ w2) (.cells #[.int .i64 (A fr)] 3))
  generalize w2.alloc (.cells #[.int .i64 (A fr)] 3)=w3 at *
  clear a0 a1 a2 a3 a4 a5 af
  go_loopw [34] (fun s wr=>∃ k:Nat,k≤6∧s = .int .i64 k∧Hid (Below w2.heap.size w2 wr∧wr.heap[w2.heap.size]? = some (.cells #[.int .i64 (leastN nb A (A fr) k)] 3 (0,0)))) (fun s _=>6 - (intOf s).toNat)
  case atStart=>exact ⟨0,by omega,rfl,HB3.out,hB3⟩
  case round =>
   clear HB3 hB3
   obtain ⟨k,hk,rfl,hst⟩:=hrel
   have bx:wr.cell? ⟨w2.heap.size,0,none⟩=some (.int .i64 (leastN nb A (A fr) k)):=zaX hst.out.2 0
   have bf:=zaZ hst.out.2 0
   have hbl:=zaY hst.out.2
   have hNr:=(hst.out.1.block _ hNl).trans HN2.out
   by_cases hk6:k<6
   ·have hsuc:=zfO nb A (A fr) k
    have hAk:=hakA k hk6
    have HST:Hid (∀ v:Nat,leastN nb A (A fr) (k+1)=v→Below w2.heap.size w2 (wr.setCell ⟨w2.heap.size,0,none⟩ (.int .i64 v))∧(wr.setCell ⟨w2.heap.size,0,none⟩ (.int .i64 v)).heap[w2.heap.size]? = some (.cells #[.int .i64 (leastN nb A (A fr) (k+1))] 3 (0,0))):=fun v hv=>by
     subst hv
     exact ⟨hst.out.1.setCell (p:=⟨w2.heap.size,0,none⟩) (Nat.le_refl _) _,zeJ (o:=0) hst.out.2 _⟩
    have HSM:Hid (leastN nb A (A fr) (k+1)=leastN nb A (A fr) k→Below w2.heap.size w2 wr∧wr.heap[w2.heap.size]? = some (.cells #[.int .i64 (leastN nb A (A fr) (k+1))] 3 (0,0))):=fun hv=>by
     rw [hv]
     exact hst.out
    have n0:=zaX hNr 0
    have n1:=zaX hNr 1
    have n2:=zaX hNr 2
    have n3:=zaX hNr 3
    have n4:=zaX hNr 4
    have n5:=zaX hNr 5
    simp at n0 n1 n2 n3 n4 n5
    clear hst hNr
    generalize leastN nb A (A fr) k=l0 at *
    have ix0:∀ w,(Instr.index 123 (.agg #[.int .i64 (A 0),.int .i64 (A 1),.int .i64 (A 2),.int .i64 (A 3),.int .i64 (A 4),.int .i64 (A 5)]) (.int .i64 0)).run Tryz.prog w = .ok (.int .i64 (A 0)) w:=fun _=>by kernel_rfl
    have ix1:∀ w,(Instr.index 123 (.agg #[.int .i64 (A 0),.int .i64 (A 1),.int .i64 (A 2),.int .i64 (A 3),.int .i64 (A 4),.int .i64 (A 5)]) (.int .i64 1)).run Tryz.prog w = .ok (.int .i64 (A 1)) w:=fun _=>by kernel_rfl
    have ix2:∀ w,(Instr.index 123 (.agg #[.int .i64 (A 0),.int .i64 (A 1),.int .i64 (A 2),.int .i64 (A 3),.int .i64 (A 4),.int .i64 (A 5)]) (.int .i64 2)).run Tryz.prog w = .ok (.int .i64 (A 2)) w:=fun _=>by kernel_rfl
    have ix3:∀ w,(Instr.index 123 (.agg #[.int .i64 (A 0),.int .i64 (A 1),.int .i64 (A 2),.int .i64 (A 3),.int .i64 (A 4),.int .i64 (A 5)]) (.int .i64 3)).run Tryz.prog w = .ok (.int .i64 (A 3)) w:=fun _=>by kernel_rfl
    have ix4:∀ w,(Instr.index 123 (.agg #[.int .i64 (A 0),.int .i64 (A 1),.int .i64 (A 2),.int .i64 (A 3),.int .i64 (A 4),.int .i64 (A 5)]) (.int .i64 4)).run Tryz.prog w = .ok (.int .i64 (A 4)) w:=fun _=>by kernel_rfl
    have ix5:∀ w,(Instr.index 123 (.agg #[.int .i64 (A 0),.int .i64 (A 1),.int .i64 (A 2),.int .i64 (A 3),.int .i64 (A 4),.int .i64 (A 5)]) (.int .i64 5)).run Tryz.prog w = .ok (.int .i64 (A 5)) w:=fun _=>by kernel_rfl
    rcases (by omega:k=0∨k=1∨k=2∨k=3∨k=4∨k=5) with rfl | rfl | rfl | rfl | rfl | rfl
    ·cases hb:nb 0 with
     | false =>
      rw [hb] at n0 hsuc
      have HX:=Hid.mk (HSM.out (by simpa using hsuc))
      clear HSM HST hsuc
      go_wp2
      exact ⟨⟨1,by omega,by rfl,HX⟩,by simp [intOf]⟩
     | true =>
      rw [hb] at n0 hsuc
      have hv:leastN nb A (A fr) (0+1)=min l0 (A 0):=by
       rw [hsuc]
       simp only [Bool.true_and,decide_eq_true_eq]
       split <;> omega
      have hvi:((min l0 (A 0):Nat):Int)=min (l0:Int) (A 0:Int):=by omega
      have HX:=Hid.mk (HST.out _ hv)
      rw [hvi] at HX
      clear HSM HST hsuc hv hvi
      go_wp2
      exact ⟨⟨1,by omega,by rfl,HX⟩,by simp [intOf]⟩
    ·cases hb:nb 1 with
     | false =>
      rw [hb] at n1 hsuc
      have HX:=Hid.mk (HSM.out (by simpa using hsuc))
      clear HSM HST hsuc
      go_wp2
      exact ⟨⟨2,by omega,by rfl,HX⟩,by simp [intOf]⟩
     | true =>
      rw [hb] at n1 hsuc
      have hv:leastN nb A (A fr) (1+1)=min l0 (A 1):=by
       rw [hsuc]
       simp only [Bool.true_and,decide_eq_true_eq]
       split <;> omega
      have hvi:((min l0 (A 1):Nat):Int)=min (l0:Int) (A 1:Int):=by omega
      have HX:=Hid.mk (HST.out _ hv)
      rw [hvi] at HX
      clear HSM HST hsuc hv hvi
      go_wp2
      exact ⟨⟨2,by omega,by rfl,HX⟩,by simp [intOf]⟩
    ·cases hb:nb 2 with
     | false =>
      rw [hb] at n2 hsuc
      have HX:=Hid.mk (HSM.out (by simpa using hsuc))
      clear HSM HST hsuc
      go_wp2
      exact ⟨⟨3,by omega,by rfl,HX⟩,by simp [intOf]⟩
     | true =>
      rw [hb] at n2 hsuc
      have hv:leastN nb A (A fr) (2+1)=min l0 (A 2):=by
       rw [hsuc]
       simp only [Bool.true_and,decide_eq_true_eq]
       split <;> omega
      have hvi:((min l0 (A 2):Nat):Int)=min (l0:Int) (A 2:Int):=by omega
      have HX:=Hid.mk (HST.out _ hv)
      rw [hvi] at HX
      clear HSM HST hsuc hv hvi
      go_wp2
      exact ⟨⟨3,by omega,by rfl,HX⟩,by simp [intOf]⟩
    ·cases hb:nb 3 with
     | false =>
      rw [hb] at n3 hsuc
      have HX:=Hid.mk (HSM.out (by simpa using hsuc))
      clear HSM HST hsuc
      go_wp2
      exact ⟨⟨4,by omega,by rfl,HX⟩,by simp [intOf]⟩
     | true =>
      rw [hb] at n3 hsuc
      have hv:leastN nb A (A fr) (3+1)=min l0 (A 3):=by
       rw [hsuc]
       simp only [Bool.true_and,decide_eq_true_eq]
       split <;> omega
      have hvi:((min l0 (A 3):Nat):Int)=min (l0:Int) (A 3:Int):=by omega
      have HX:=Hid.mk (HST.out _ hv)
      rw [hvi] at HX
      clear HSM HST hsuc hv hvi
      go_wp2
      exact ⟨⟨4,by omega,by rfl,HX⟩,by simp [intOf]⟩
    ·cases hb:nb 4 with
     | false =>
      rw [hb] at n4 hsuc
      have HX:=Hid.mk (HSM.out (by simpa using hsuc))
      clear HSM HST hsuc
      go_wp2
      exact ⟨⟨5,by omega,by rfl,HX⟩,by simp [intOf]⟩
     | true =>
      rw [hb] at n4 hsuc
      have hv:leastN nb A (A fr) (4+1)=min l0 (A 4):=by
       rw [hsuc]
       simp only [Bool.true_and,decide_eq_true_eq]
       split <;> omega
      have hvi:((min l0 (A 4):Nat):Int)=min (l0:Int) (A 4:Int):=by omega
      have HX:=Hid.mk (HST.out _ hv)
      rw [hvi] at HX
      clear HSM HST hsuc hv hvi
      go_wp2
      exact ⟨⟨5,by omega,by rfl,HX⟩,by simp [intOf]⟩
    ·cases hb:nb 5 with
     | false =>
      rw [hb] at n5 hsuc
      have HX:=Hid.mk (HSM.out (by simpa using hsuc))
      clear HSM HST hsuc
      go_wp2
      exact ⟨⟨6,by omega,by rfl,HX⟩,by simp [intOf]⟩
     | true =>
      rw [hb] at n5 hsuc
      have hv:leastN nb A (A fr) (5+1)=min l0 (A 5):=by
       rw [hsuc]
       simp only [Bool.true_and,decide_eq_true_eq]
       split <;> omega
      have hvi:((min l0 (A 5):Nat):Int)=min (l0:Int) (A 5:Int):=by omega
      have HX:=Hid.mk (HST.out _ hv)
      rw [hvi] at HX
      clear HSM HST hsuc hv hvi
      go_wp2
      exact ⟨⟨6,by omega,by rfl,HX⟩,by simp [intOf]⟩
   ·have hk7:k=6:=by omega
    subst hk7
    obtain ⟨hB4,hX4⟩:=hst.out
    clear hst hNr
    have hI4:=HI2.out.below hB4 (o,1)
    have hcb:paint col w2.heap.size (o,1) w2.heap.size=(o,1):=zim col _ (Nat.le_refl _)
    have hF4:FrC (ofPrg o i) col (paint col w2.heap.size (o,1)) w wr:=HF2.out.trans (zdH hB4 (o,1))
    generalize paint col w2.heap.size (o,1)=col4 at *
    generalize hLL:leastN nb A (A fr) 6=L at *
    have hLle:L≤4194304:=by
     rw [← hLL]
     exact Nat.le_trans (zfN nb A (A fr) 6) (hakA fr hf)
    have c4:=hI4.cells.c4
    have HDF:=Hid.mk (fun W (hW:Below wr.heap.size wr W)=>(hI4.same hW).delF ((hW.cell (p:=⟨w2.heap.size,0,none⟩) hbl).trans bx) hcb hes)
    have HF4:=Hid.mk hF4
    obtain ⟨adb,cpb,hvb,-⟩:=hI4.p.buf.form
    clear hI4 hF4 hB4 hX4 HI2 HF2 HN2
    rw [hvb] at HDF c4
    go_wp2_with fail
    refine (HDF.out _ (Below.refl _ _)).mono ?_
    rintro e w5 ⟨vb5,rfl,y4,yf4,ybx,hI5,hF5⟩
    obtain ⟨ad5,cp5,hv5,-⟩:=hI5.out.p.buf.form
    simp only at hv5
    subst hv5
    have y2:=hI5.out.cells.c2
    have yf2:=hI5.out.cells.fz (i*14+2)
    have yR:K.R<_:=hI5.out.ltR
    simp only at y2
    have HPT:Hid (∀ W,Below (w5.setCell ⟨K.R,i*14+4,none⟩ (.slice ad5 (D.es.filter (keepE L)).length cp5)).heap.size (w5.setCell ⟨K.R,i*14+4,none⟩ (.slice ad5 (D.es.filter (keepE L)).length cp5)) W→PrI (W.setCell ⟨K.R,i*14+2,none⟩ (.int .i64 (max (D.base:Int) (L:Int)))) col4 o x i K { D with ak:=A,vb := .slice ad5 (D.es.filter (keepE L)).length cp5,es:=D.es.filter (keepE L),base:=max D.base L }∧FrC (ofPrg o i) col col4 w (W.setCell ⟨K.R,i*14+2,none⟩ (.int .i64 (max (D.base:Int) (L:Int))))):=fun W hW=>by
     have hmx:((max D.base L:Nat):Int)=max (D.base:Int) (L:Int):=by omega
     obtain ⟨p1,p2⟩:=(hI5.out.same hW).put (k:=2) (u := .int .i64 (max (D.base:Int) (L:Int))) (by omega) { D with ak:=A,vb := .slice ad5 (D.es.filter (keepE L)).length cp5,es:=D.es.filter (keepE L),base:=max D.base L } (by simp [PrD.cells,← hmx]) rfl rfl rfl rfl rfl rfl rfl
     exact ⟨p1,((HF4.out.trans hF5.out).trans (zdJ hW)).trans p2⟩
    clear hI5 hF5 HDF HF4
    go_wp2
    generalize w5.setCell ⟨K.R,i*14+4,none⟩ (.slice ad5 (D.es.filter (keepE L)).length cp5)=w6 at *
    go_region
    all_goals go_wp2
    all_goals go_end0
    all_goals rw [hAA,hLL]
    all_goals first
     | exact ⟨rfl,col4,_,(HPT.out _ (Below.refl _ _)).1.same (Below.refl _ _).drew,(HPT.out _ (Below.refl _ _)).2.trans (zdJ (Below.refl _ _).drew)⟩
     | exact ⟨rfl,col4,_,(HPT.out _ (Below.refl _ _).drew).1,(HPT.out _ (Below.refl _ _).drew).2⟩
     | exact ⟨rfl,col4,_,(HPT.out _ (Below.refl _ _)).1,(HPT.out _ (Below.refl _ _)).2⟩
theorem zdE (nb:Nat→Bool)(ak:Nat→Nat)(m n:Nat)(hn:∀ j,n≤j→nb j=false):∀ k,n≤k→leastN nb ak m k=leastN nb ak m n
 | 0,h=>by rw [Nat.le_zero.1 h]
 | k+1,h=>by
  by_cases e:n=k+1
  ·rw [e]
  ·rw [zfO,hn k (by omega)]
   simp only [Bool.false_and,Bool.false_eq_true,if_false]
   exact zdE nb ak m n hn k (by omega)
theorem zfM {nb nb' : Nat→Bool}{ak ak' : Nat→Nat}{m:Nat}:∀ k,(∀ q,q<k→nb q=nb' q∧ak q=ak' q)→leastN nb ak m k=leastN nb' ak' m k
 | 0,_=>rfl
 | k+1,h=>by
  rw [zfO,zfO,zfM k (fun q hq=>h q (by omega)),(h k (by omega)).1,(h k (by omega)).2]
theorem zfL (near:Nat→Bool)(a:List Nat)(m:Nat):leastN near (fun q=>a.getD q 0) m a.length=leastAcked near a m:=rfl
theorem zd6 (l:List Nat)(q j v:Nat)(hq:q<l.length):(l.set q v).getD j 0=if j=q then v else l.getD j 0:=by
 rw [List.getD_eq_getElem?_getD,List.getD_eq_getElem?_getD,List.getElem?_set]
 by_cases e:q=j
 ·subst e;simp [hq]
 ·rw [if_neg e,if_neg (fun h=>e h.symm)]
theorem PrD.is.ack {D:PrD}{p:Rep}{U:List At}{N n room:Nat}(h:D.is p)(hp:p.ok U N n room)(hn6:n≤6)(near nb:Nat→Bool)(hnb:∀ j,j<6→nb j=near j)(hfar:∀ j,n≤j→near j=false)(q u:Nat)(hq:q<n)(vb:Value) :
  ({ D with ak:=ackP D.ak q u,vb:=vb,es:=D.es.filter (keepE (leastN nb (ackP D.ak q u) (ackP D.ak q u q) 6)),base:=max D.base (leastN nb (ackP D.ak q u) (ackP D.ak q u q) 6) }:PrD).is (p.ack near q u):=by
 have hl:p.acked.length=n:=hp.ackL
 have hA:∀ j,j<6→ackP D.ak q u j=(p.acked.set q (max (p.acked.getD q 0) u)).getD j 0:=fun j hj=>by
  rw [zd6 _ _ _ _ (by omega)]
  unfold ackP
  rw [h.ak q (by omega),h.ak j hj]
 have hLL:leastN nb (ackP D.ak q u) (ackP D.ak q u q) 6=leastAcked near (p.acked.set q (max (p.acked.getD q 0) u)) ((p.acked.set q (max (p.acked.getD q 0) u)).getD q 0):=by
  rw [hA q (by omega),← zfL,List.length_set,hl,← zdE near _ _ n hfar 6 hn6]
  exact zfM 6 fun j hj=>⟨hnb j hj,hA j hj⟩
 rw [hLL]
 unfold Rep.ack
 simp only
 generalize leastAcked near (p.acked.set q (max (p.acked.getD q 0) u)) ((p.acked.set q (max (p.acked.getD q 0) u)).getD q 0)=L
 refine ⟨h.up,h.num,by show max D.base L=max p.base L;rw [h.base],h.M,?_,hA,h.bytes,h.frames,h.weight⟩
 show (D.es.filter (keepE L)).map Pe.ent=p.buf.filter (fun e=>decide (L<e.num))
 rw [← h.buf,List.filter_map]
 rfl
theorem PrI.norm2 {w:World}{col:Col}{o x i:Nat}{K:PrK}{D:PrD}{p:Rep}{U:List At}(h:PrI w col o x i K D)(hD:D.is p)(hs:∀ a∈p.atoms,a∈U)(hU:U.length≤131072):∃ D2:PrD,D2.is p∧D2.n≤4194304∧PrAt w col o x (K.setD i D2) :=
 ⟨{ D with n:=U.length },⟨hD.up,hD.num,hD.base,hD.M,hD.buf,hD.ak,hD.bytes,hD.frames,hD.weight⟩,by show U.length≤_;omega,(h.norm hD.M hs).close⟩
theorem zlo {K:PrK}{D:PrD}{m:Nat}(h:∀ i (h:i<K.Ds.length),(K.Ds[i]).n≤4194304)(hD:D.n≤4194304):∀ i (h:i<(K.setD m D).Ds.length),((K.setD m D).Ds[i]).n≤4194304:=by
 intro j hj
 by_cases e:j=m
 ·subst e
  rw [K.setD_at]
  exact hD
 ·have hj' : j<K.Ds.length:=by rw [← K.setD_len m D];exact hj
  have h1:(K.setD m D).Ds[j]=K.Ds[j]:=List.getElem_set_ne (fun e' => e e'.symm) _
  rw [h1]
  exact h j hj'
def ArrP (w:World)(col:Col)(o x:Nat)(c:Clu)(e:Ending)(w' : World):Prop :=
 e = .returned (.tuple #[])∧w'.cell? ⟨x,0,none⟩=some (.int .i32 1)∧w'.frozen? ⟨x,0,none⟩=false∧∃ K' col',Hid (PrgAt (w'.setCell ⟨x,0,none⟩ (.int .i32 0)) col' o x K' c)∧Hid (FrC (ofOwn o) col col' w (w'.setCell ⟨x,0,none⟩ (.int .i32 0)))
structure ArrH (w:World)(col:Col)(o x:Nat)(K:PrK)(c:Clu)(U:List At)(N:Nat)(f:Frm)(v:Value):Prop where
 at_:PrAt w col o x { K with lk:=1 }
 is:K.is c
 n:∀ i (h:i<K.Ds.length),(K.Ds[i]).n≤4194304
 o0:o ≠ 0
 tab:Tab w col
 ok:c.ok U N
 lim:Lim U N
 held:Held w col (o,1) v f.d
 fok:f.ok U N c.reps.length
 far:∀ j,c.reps.length≤j→c.near f.dst j=false
section
variable {w:World} {col:Col} {o x N:Nat} {U:List At} {K:PrK} {c:Clu} {f:Frm} {v:Value}
theorem ArrH.same {w' : World}(h:ArrH w col o x K c U N f v)(hb:Below w.heap.size w w'):ArrH w' col o x K c U N f v :=
 ⟨h.at_.same hb,h.is,h.n,h.o0,h.tab.below hb,h.ok,h.lim,h.held.kept (S:=fun _=>False) (zdJ hb) id,h.fok,h.far⟩
theorem ArrH.lt (h:ArrH w col o x K c U N f v):f.dst<K.Ds.length:=by rw [h.is.len];exact h.fok.dst
theorem ArrH.cell (h:ArrH w col o x K c U N f v):w.cell? ⟨x,41,none⟩=some (.slice (some ⟨K.R,0,none⟩) K.Ds.length K.Ds.length)∧w.cell? ⟨K.R,f.dst*14,none⟩=some (.bool (!(c.rep f.dst).down))∧w.cell? ⟨x,3,none⟩=some (.bool c.rr)∧w.cell? ⟨x,4,none⟩=some (.int .i64 c.room)∧x<w.heap.size∧K.R<w.heap.size:=by
 have h1:=h.at_.cl
 have h2:=(h.at_.cells h.lt).c0
 refine ⟨h1.2.2.2.2.1,?_,?_,?_,zaY h.at_.blk,zaY h.at_.row⟩
 ·rw [← (h.is.reps f.dst h.lt).up];exact h2
 ·rw [← h.is.rr];exact h1.2.2.1
 ·rw [← h.is.room];exact h1.2.2.2.1
set_option maxRecDepth 100000 in
theorem ziN (h:ArrH w col o x K c U N f v)(hdn:(c.rep f.dst).down=true) :
  Calls Tryz.prog 101 #[.pointer (some ⟨x,0,none⟩),.agg #[.int .i64 f.kind,.int .i64 f.src,.int .i64 f.dst,.int .i64 f.upto,v]] w (ArrP w col o x (c.arrived f)):=by
 obtain ⟨ad,cp,hv,-⟩:=id h.held
 subst hv
 have hbA:=zaO (Below.refl _ w) (.cells #[.int .i64 f.kind,.int .i64 f.src,.int .i64 f.dst,.int .i64 f.upto,.slice ad f.d.length cp] 110)
 have hfb:=heap_alloc_new w (.cells #[.int .i64 f.kind,.int .i64 f.src,.int .i64 f.dst,.int .i64 f.upto,.slice ad f.d.length cp] 110)
 obtain ⟨k41,kup,-,-,hx,hR⟩:=(h.same hbA).cell
 rw [hdn] at kup
 have hca:c.arrived f=c:=by unfold Clu.arrived;rw [if_pos hdn]
 have HEND:Hid (∀ k,ArrP w col o x c (.returned (.tuple #[])) ((w.alloc (.cells #[.int .i64 f.kind,.int .i64 f.src,.int .i64 f.dst,.int .i64 f.upto,.slice ad f.d.length cp] 110)).drewN k)):=fun k=>by
  have hb2:=below_drewN hbA k
  have hA:=h.at_.same hb2
  obtain ⟨u0,u1,u2,u3⟩:=PrB.unlock (K:=K) hA h.is.lk
  exact ⟨rfl,u0,u1,K,col,⟨u2,h.is,h.n⟩,(zdJ hb2).trans (u3.mono zhh)⟩
 obtain ⟨g0,g1,g2,g3,g4⟩:=zdl hfb
 rw [hca]
 have hlt:=h.lt
 clear h hbA hfb hca
 generalize hLL:K.Ds.length=LL at *
 have q1:(f.dst:Int)<(LL:Int):=by omega
 have q0:(0:Int)≤(f.dst:Int):=by omega
 go_enter Tryz.func101,Tryz.ntmps101
 go_wp2
 generalize w.alloc (.cells #[.int .i64 f.kind,.int .i64 f.src,.int .i64 f.dst,.int .i64 f.upto,.slice ad f.d.length cp] 110)=w1 at *
 go_quiet (fail)
 go_wp2
 go_end0
 exact HEND.out nq
set_option maxRecDepth 100000 in
theorem ziM (h:ArrH w col o x K c U N f v)(hdn:(c.rep f.dst).down=false)(hk3:f.kind=3) :
  Calls Tryz.prog 101 #[.pointer (some ⟨x,0,none⟩),.agg #[.int .i64 f.kind,.int .i64 f.src,.int .i64 f.dst,.int .i64 f.upto,v]] w (ArrP w col o x (c.arrived f)):=by
 obtain ⟨ad,cp,hv,-⟩:=id h.held
 subst hv
 have hbA:=zaO (Below.refl _ w) (.cells #[.int .i64 f.kind,.int .i64 f.src,.int .i64 f.dst,.int .i64 f.upto,.slice ad f.d.length cp] 110)
 have hfb:=heap_alloc_new w (.cells #[.int .i64 f.kind,.int .i64 f.src,.int .i64 f.dst,.int .i64 f.upto,.slice ad f.d.length cp] 110)
 have h1:=h.same hbA
 obtain ⟨k41,kup,-,-,hx,hR⟩:=h1.cell
 rw [hdn] at kup
 have hca:c.arrived f=c.setRep f.dst ((c.rep f.dst).ack (c.near f.dst) f.src f.upto):=by unfold Clu.arrived;rw [hdn,if_neg (by decide),if_pos hk3]
 have hlt:=h.lt
 have hn6:=h.ok.n6
 have hd6:f.dst<6:=Nat.lt_of_lt_of_le h.fok.dst hn6
 have hs6:f.src<6:=Nat.lt_of_lt_of_le h.fok.src hn6
 have hrep:=h.ok.rep h.fok.dst
 have hD:=h.is.reps f.dst h.lt
 have hnum:(c.rep f.dst).num≤2097152:=Nat.le_trans hrep.num h.lim.1
 have n0:=h1.at_.nearC (r:=f.dst) (q:=0) hd6 (by omega)
 have n1:=h1.at_.nearC (r:=f.dst) (q:=1) hd6 (by omega)
 have n2:=h1.at_.nearC (r:=f.dst) (q:=2) hd6 (by omega)
 have n3:=h1.at_.nearC (r:=f.dst) (q:=3) hd6 (by omega)
 have n4:=h1.at_.nearC (r:=f.dst) (q:=4) hd6 (by omega)
 have n5:=h1.at_.nearC (r:=f.dst) (q:=5) hd6 (by omega)
 have HLE:Hid (∀ W,Below (w.alloc (.cells #[.int .i64 f.kind,.int .i64 f.src,.int .i64 f.dst,.int .i64 f.upto,.slice ad f.d.length cp] 110)).heap.size (w.alloc (.cells #[.int .i64 f.kind,.int .i64 f.src,.int .i64 f.dst,.int .i64 f.upto,.slice ad f.d.length cp] 110)) W→Calls Tryz.prog 146 #[.pointer (some ⟨K.R,f.dst*14,none⟩),.int .i64 f.src,.int .i64 f.upto,.agg #[.bool (K.near f.dst 0),.bool (K.near f.dst 1),.bool (K.near f.dst 2),.bool (K.near f.dst 3),.bool (K.near f.dst 4),.bool (K.near f.dst 5)]] W (ArrP w col o x (c.arrived f))):=fun W hW=>by
  have hI:=PrAt.inside (h1.at_.same hW) (by show K.Ds.length≤6;rw [h.is.len];exact hn6) h.lt
  refine (zi6 hI f.src f.upto hs6 (by have:=h.fok.upto;have:=h.lim.1;omega) (fun q hq => ?_) (by show (K.Ds[f.dst]).base≤_;rw [hD.base];have:=hrep.base;omega) (K.near f.dst) (by
   show (K.Ds[f.dst]).es.length≤_
   have:=hrep.bufL
   rw [← hD.buf,List.length_map] at this
   have:=h.ok.room8
   omega)).mono ?_
  ·show (K.Ds[f.dst]).ak q≤_
   rw [hD.ak q hq]
   by_cases hqn:q<(c.rep f.dst).acked.length
   ·rw [List.getD_eq_getElem?_getD,List.getElem?_eq_getElem hqn]
    have:=hrep.ack _ (List.getElem_mem hqn)
    simp only [Option.getD_some]
    omega
   ·rw [List.getD_eq_getElem?_getD,List.getElem?_eq_none (by omega)]
    exact Nat.zero_le _
  rintro e w2 ⟨rfl,col2,vb2,hI2,hF2⟩
  have hD2:=hD.ack hrep hn6 (c.near f.dst) (K.near f.dst) (fun j hj=>h.is.near f.dst j hd6 hj) h.far f.src f.upto h.fok.src vb2
  obtain ⟨D3,hD3,hn3,hA3⟩:=hI2.out.norm2 hD2 (U:=U) (fun a ha=>hrep.sub a (by
   have:((c.rep f.dst).ack (c.near f.dst) f.src f.upto).atoms=(c.rep f.dst).atoms:=rfl
   rw [this] at ha
   exact ha)) h.lim.2
  obtain ⟨u0,u1,u2,u3⟩:=PrB.unlock (K:=K.setD f.dst D3) hA3 h.is.lk
  rw [hca]
  exact ⟨rfl,u0,u1,K.setD f.dst D3,col2,⟨u2,h.is.set h.fok.dst hD3,zlo h.n hn3⟩,(((zdJ hbA).trans (zdJ hW)).trans (hF2.out.mono zhi)).trans (u3.mono zhh)⟩
 obtain ⟨g0,g1,g2,g3,g4⟩:=zdl hfb
 clear h h1 hbA hfb hca hrep hD hdn hnum
 obtain ⟨fk,fs,ft,fu,fd⟩:=f
 simp only at *
 subst hk3
 generalize hLL:K.Ds.length=LL at *
 have q1:(ft:Int)<(LL:Int):=by omega
 have q0:(0:Int)≤(ft:Int):=by omega
 have q6:(ft:Int)<6:=by omega
 go_enter Tryz.func101,Tryz.ntmps101
 go_wp2
 generalize w.alloc (.cells #[.int .i64 3,.int .i64 fs,.int .i64 ft,.int .i64 fu,.slice ad fd.length cp] 110)=w1 at *
 rw [Nat.add_zero] at n0
 go_quiet (fail)
 go_wp2
 go_region_law (first | (go_simp;go_at_call 146;refine (HLE.out _ (by first | exact (below_drewN (Below.refl _ _) _).drew | exact below_drewN (Below.refl _ _) _)).mono ?_;rintro e w2 hArr;obtain ⟨rfl,hArr2⟩:=id hArr;have HAR:=Hid.mk hArr;clear hArr hArr2) | fail)
 all_goals go_wp2
 all_goals go_end0
 all_goals exact HAR.out
end
end Go.Proofs.YtahdlejgjcjeoabGreatDoor
