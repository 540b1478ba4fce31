/- slices.DeleteFunc of entries, by their numbers. -/
import Derived.Test.YtahdlejgjcjeoabGreatDoorA40
import Derived.Test.YtahdlejgjcjeoabGreatDoorA13
import Derived.Maps.OwnSet
namespace Go.Proofs.YtahdlejgjcjeoabGreatDoor
set_option maxHeartbeats 8000000
open Go.RowKit Go.MuLone
theorem zfm {H:Type}(x:Lit × DataW H):∀ l:List (Lit × DataW H),(DataW.insert x l).length=l.length+1
 | []=>rfl
 | z :: r=>by
  unfold DataW.insert
  split
  ·rfl
  ·rw [List.length_cons,zfm x r,List.length_cons]
theorem zlO {H:Type}:∀ l:List (Lit × DataW H),(l.foldr DataW.insert []).length=l.length
 | []=>rfl
 | x :: r=>by rw [List.foldr_cons,zfm,zlO r,List.length_cons]
theorem zm6:Tryz.prog.underlying 122=some (.map 211 213):=by kernel_rfl
theorem StMap.len {w:World}{b n:Nat}{M:Sl→Option Gr}(h:StMap w b n M):∃ k:Nat,(∀ ty,(Builtin.len_ #[122] ty #[.map (some b)]).run Tryz.prog w = .ok (.int .i64 k) w)∧(k=0 ↔ ∀ s g,M s ≠ some g):=by
 have h0:=h
 obtain ⟨D,hown,h2,h3⟩:=h
 refine ⟨Maps.size D,fun ty=>hown.len zm6 ty,?_⟩
 obtain ⟨es,clock,hb,F,hs,hD⟩:=hown
 constructor
 ·intro hk s g hM
  obtain ⟨-,hhas,-⟩:=h3 s g hM
  rw [hD] at hk hhas
  rw [Maps.size_eq] at hk
  rw [List.length_eq_zero_iff.1 hk] at hhas
  cases hhas
 ·intro hM
  obtain ⟨D',⟨es',clock',hb',F',hs',-⟩,-⟩:=h0.shrink [] (fun s g h=>absurd h (hM s g))
  rw [hb] at hb'
  cases hb'
  rw [hD,Maps.size_eq,zlO,List.length_map]
  simpa using hs'
theorem zdR {d m:List At}(hd:∀ a∈d,mayB a=true):IsNews d m (fresh d m):=by
 have:=zg0 (m:=m) hd (zmr d)
 unfold newsTo at this
 rwa [List.take_of_length_le (Nat.le_refl _)] at this
theorem zmD {d m:List At}(hd:∀ a∈d,mayB a=true):(∀ s g,thinM (addTo (fun _=>none) d) (addTo (fun _=>none) m) s ≠ some g) ↔ fresh d m = []:=by
 constructor
 ·intro h
  refine List.eq_nil_iff_forall_not_mem.2 fun x hx => ?_
  obtain ⟨h1,h2,h3⟩:=((zdR hd).mem x).1 hx
  obtain ⟨g,hg,hle⟩:=(zeV d).top x h1
  obtain ⟨b,hb,e1,rfl⟩:=(zeV d).only _ _ hg
  refine h (slot x) (grade b) (zmz hg ?_)
  intro g' hg'
  obtain ⟨y,hy,e2,rfl⟩:=(zeV m).only _ _ hg'
  have hp:plc x y=0:=by rw [zix,zk4,e2]
  have h5:=h3 y hy hp
  rw [zeh x y (ziF hp)] at h5
  refine Int.not_le.1 fun h6 => ?_
  have:=zd4.trans (grade x) (grade b) (grade y) hle h6
  omega
 ·intro h s g hs
  obtain ⟨hM,hO⟩:=zmA hs
  obtain ⟨a,ha,h1,h2⟩:=(zeV d).only _ _ hM
  have:a∈fresh d m:=by
   refine ((zdR hd).mem a).2 ⟨ha,fun y hy hp => ?_,fun y hy hp => ?_⟩
   ·obtain ⟨g',hg',hle⟩:=(zeV d).top y hy
    rw [ziz hp,h1,hM] at hg'
    rw [zeh y a (ziF hp),h2,Option.some.inj hg']
    exact hle
   ·obtain ⟨g',hg',hle⟩:=(zeV m).top y hy
    rw [← ziz hp,h1] at hg'
    have h3:=hO g' hg'
    rw [zeh a y (ziF hp),h2]
    have h4:=zd4.anti g g'
    have h5:=zd4.le_lt hle (z:=g) (by omega)
    have h6:=zd4.anti (grade y) g
    omega
  rw [h] at this
  cases this
set_option maxRecDepth 100000 in
theorem zjt (R i:Nat)(D:PrD)(w:World)(hT:RulesAt w)(c3:w.cell? ⟨R,i*14+3,none⟩=some (.map (some D.b)))(hst:StMap w D.b D.n D.M)(atoms:List At)(hM:D.M=addTo (fun _=>none) atoms)(v:Value)(d:List At)(hv:SliceOf w v d)(hmay:∀ a∈d,mayB a=true)(hlen:d.length≤131072)(rr:Bool) :
  Calls Tryz.prog 147 #[.pointer (some ⟨R,i*14,none⟩),v,.bool rr] w fun e w' => Below w.heap.size w w' ∧ ∃ v',e = .returned v' ∧ Hid (if rr=false∧fresh d atoms ≠ [] then v' = v else w'.ownsRow w.heap.size 76 6 v' (fresh d atoms).length (flat (fresh d atoms))):=by
 have hR:R<w.heap.size:=World.block_lt_of_cell? w ⟨R,i*14+3,none⟩ c3
 have hmk:=@run_makeMap Tryz.prog
 have hbA:=zaO (Below.refl _ w) (.map #[] 0)
 have HAD:=Hid.mk (zan v d w.heap.size 0 (fun _=>none) (w.alloc (.map #[] 0)) (hT.below hbA hT.1) (zlW w) (hv.below hbA) hmay (by omega))
 have hlb:=hst.lt
 have HTH:Hid (∀ w1,StMap w1 w.heap.size (0+d.length) (addTo (fun _=>none) d)→(w.alloc (.map #[] 0)).grownBy w1 (some w.heap.size)→w1.cell? ⟨R,i*14+3,none⟩=some (.map (some D.b))∧Below w.heap.size w w1∧Calls Tryz.prog 183 #[.map (some w.heap.size),.map (some D.b)] w1 fun e w' => e = .returned (.tuple #[])∧StMap w' w.heap.size (0+d.length) (thinM (addTo (fun _=>none) d) (addTo (fun _=>none) atoms))∧w1.grownBy w' (some w.heap.size)):=fun w1 h1 h2=>by
  have hb1:Below w.heap.size w w1:=hbA.grown h2 hbA.size (fun q hq=>by cases hq;exact Nat.le_refl _)
  refine ⟨(hb1.cell (p:=⟨R,i*14+3,none⟩) hR).trans c3,hb1,?_⟩
  rw [← hM]
  exact zmB w.heap.size D.b _ D.n _ _ w1 h1 (hst.block (hb1.block _ hlb)) (by omega)
 have HTE:Hid (∀ w2,Below w.heap.size w w2→StMap w2 w.heap.size (0+d.length) (thinM (addTo (fun _=>none) d) (addTo (fun _=>none) atoms))→Calls Tryz.prog 102 #[.map (some w.heap.size)] w2 fun e w' => ∃ v',e = .returned v' ∧ w'.ownsRow w.heap.size 76 6 v' (fresh d atoms).length (flat (fresh d atoms))∧Below w.heap.size w w'):=fun w2 hb2 h2=>by
  refine (zmo w.heap.size _ _ w2 (hT.below hb2 hT.1) h2 (zmC ((zeV d).mayMap hmay)) (by omega)).mono ?_
  rintro e w' ⟨v',out,rfl,ho,ht,hb⟩
  have:out=fresh d atoms:=((zeV d).news (zeV atoms) hmay ht.out).unique (zdR hmay)
  subst this
  exact ⟨v',rfl,zic ho hb2.size,hb2.trans (hb.mono hb2.size)⟩
 have HFR:=Hid.mk (zmD (d:=d) (m:=atoms) hmay)
 obtain ⟨ad,cap,rfl,-⟩:=id hv
 clear hT hst hM hv hmay hbA
 cases rr with
 | true =>
  go_enter Tryz.func147,Tryz.ntmps147
  go_wp2_with fail
  refine HAD.out.mono ?_
  rintro e w1 ⟨rfl,s1,g1⟩
  obtain ⟨z3,hb1,hth⟩:=HTH.out w1 s1 g1
  clear s1 g1 HTH HAD
  go_wp2_with fail
  refine hth.mono ?_
  rintro e w2 ⟨rfl,s2,g2⟩
  have hb2:=hb1.grown g2 hb1.size (fun q hq=>by cases hq;exact Nat.le_refl _)
  have HTL:=Hid.mk (HTE.out w2 hb2 s2)
  obtain ⟨k,hlenM,hk0⟩:=s2.len
  have HK:Hid (k=0 ↔ fresh d atoms = []):=hk0.trans HFR.out
  have HB2:=Hid.mk hb2
  clear hth s2 g2 hb1 HTE hk0 HFR z3 hb2
  go_wp2_with fail
  refine HTL.out.mono ?_
  rintro e w3 ⟨v3,rfl,ho3,hb3⟩
  have HO:=Hid.mk ho3
  obtain ⟨ad3,cp3,hv3⟩:=zh1 ho3
  subst hv3
  clear ho3
  go_wp2
  ·rename_i h
   exact absurd h.1 (by decide)
  ·go_ret
   exact ⟨hb3,_,rfl,HO.out⟩
 | false =>
  go_enter Tryz.func147,Tryz.ntmps147
  go_wp2_with fail
  refine HAD.out.mono ?_
  rintro e w1 ⟨rfl,s1,g1⟩
  obtain ⟨z3,hb1,hth⟩:=HTH.out w1 s1 g1
  clear s1 g1 HTH HAD
  go_wp2_with fail
  refine hth.mono ?_
  rintro e w2 ⟨rfl,s2,g2⟩
  have hb2:=hb1.grown g2 hb1.size (fun q hq=>by cases hq;exact Nat.le_refl _)
  have HTL:=Hid.mk (HTE.out w2 hb2 s2)
  obtain ⟨k,hlenM,hk0⟩:=s2.len
  have HK:Hid (k=0 ↔ fresh d atoms = []):=hk0.trans HFR.out
  have HB2:=Hid.mk hb2
  clear hth s2 g2 hb1 HTE hk0 HFR z3 hb2
  by_cases hz:k=0
  ·subst hz
   have hf:=HK.out.1 rfl
   go_wp2_with fail
   refine HTL.out.mono ?_
   rintro e w3 ⟨v3,rfl,ho3,hb3⟩
   have HO:=Hid.mk ho3
   obtain ⟨ad3,cp3,hv3⟩:=zh1 ho3
   subst hv3
   clear ho3
   rw [hf] at HO
   go_wp2
   all_goals go_ret
   all_goals exact ⟨hb3,_,rfl,HO.out⟩
  ·have hf:fresh d atoms ≠ []:=fun e=>hz (HK.out.2 e)
   have hz' : ¬ (k:Int)=0:=by omega
   go_wp2
   all_goals go_ret
   all_goals exact ⟨HB2.out,_,rfl,by rfl⟩
set_option maxRecDepth 100000 in
theorem zd7 (num org:Nat)(ad:Option Addr)(n cp b:Nat)(L:Nat)(w:World)(hb:w.cell? ⟨b,0,none⟩=some (.int .i64 L)) :
  Calls Tryz.prog 182 #[.agg #[.int .i64 num,.int .i64 org,.slice ad n cp],.pointer (some ⟨b,0,none⟩)] w fun e w' => e = .returned (.bool (decide (num≤L)))∧Below w.heap.size w w' := by
 have hbl:=World.block_lt_of_cell? w ⟨b,0,none⟩ hb
 by_cases h:num≤L
 ·have h' : (num:Int)≤(L:Int):=by omega
  rw [decide_eq_true h]
  go_enter Tryz.func182,Tryz.ntmps182
  go_wp2
  go_ret
  exact ⟨rfl,zaO (Below.refl _ w) _⟩
 ·have h' : ¬ (num:Int)≤(L:Int):=by omega
  rw [decide_eq_false h]
  go_enter Tryz.func182,Tryz.ntmps182
  go_wp2
  go_ret
  exact ⟨rfl,zaO (Below.refl _ w) _⟩
set_option maxRecDepth 100000 in
theorem zeX (g cap b L:Nat)(es:List Pe)(w:World)(hrow:w.ownsRow 0 85 3 (.slice (some ⟨g,0,none⟩) es.length cap) es.length (es.flatMap Pe.cells))(hv:∀ e∈es,∃ ad cp,e.v = .slice ad e.d.length cp)(hb:w.cell? ⟨b,0,none⟩=some (.int .i64 L))(hn:es.length≤1024) :
  Calls Tryz.prog 201 #[.slice (some ⟨g,0,none⟩) es.length cap,.func (.func 182) #[] #[.pointer (some ⟨b,0,none⟩)]] w fun e w' => Below w.heap.size w w' ∧ ∃ k,Hid (k≤es.length∧(∀ j (h:j<es.length),j<k→L<(es[j]).num)∧∀ h:k<es.length,(es[k]).num≤L)∧e = .returned (.int .i64 (if k<es.length then (k:Int) else -1)):=by
 have HROW:=Hid.mk hrow
 have HV:=Hid.mk hv
 have hbl:=World.block_lt_of_cell? w ⟨b,0,none⟩ hb
 clear hrow hv
 go_enter Tryz.func201,Tryz.ntmps201
 go_wp2
 go_loopw [8] (fun s wr=>∃ k:Nat,k≤es.length∧s = .int .i64 k∧Hid (∀ j (h:j<es.length),j<k→L<(es[j]).num)∧Hid (Below w.heap.size w wr)) (fun s _=>es.length - (intOf s).toNat)
 case atStart=>exact ⟨0,Nat.zero_le _,rfl,fun j _ h=>by omega,Below.refl _ _⟩
 case round =>
  obtain ⟨k,hk,rfl,hall,hbw⟩:=hrel
  by_cases hlt:k<es.length
  ·obtain ⟨g',hg',hg,d0,d1,d2⟩:=zcV HROW.out hlt
   cases hg'
   have e0:=(hbw.out.cell (p:=⟨g,k*3,none⟩) hg).trans d0
   have e1:=(hbw.out.cell (p:=⟨g,k*3+1,none⟩) hg).trans d1
   have e2:=(hbw.out.cell (p:=⟨g,k*3+2,none⟩) hg).trans d2
   have hbr:=(hbw.out.cell (p:=⟨b,0,none⟩) hbl).trans hb
   obtain ⟨adv,cpv,hvv⟩:=HV.out _ (List.getElem_mem hlt)
   rw [hvv] at e2
   have HNX:Hid (L<(es[k]).num→∀ j (h:j<es.length),j<k+1→L<(es[j]).num):=fun hL j h hj=>by
    by_cases e:j=k
    ·subst e;exact hL
    ·exact hall.out j h (by omega)
   have HST:Hid ((es[k]).num≤L→k≤es.length∧(∀ j (h:j<es.length),j<k→L<(es[j]).num)∧∀ h:k<es.length,(es[k]).num≤L):=fun hL=>⟨hk,hall.out,fun _=>hL⟩
   have HGO:=Hid.mk (zd7 (es[k]).num (es[k]).org adv (es[k]).d.length cpv b L wr hbr)
   clear d0 d1 d2 hvv hbr hall
   generalize (es[k]).num=tn at *
   generalize (es[k]).org=tg at *
   generalize (es[k]).d.length=tl at *
   have q1:(k:Int)<(es.length:Int):=by omega
   have q2:(0:Int)≤(k:Int):=by omega
   by_cases hL:tn≤L
   ·rw [decide_eq_true hL] at HGO
    have HS:=Hid.mk (HST.out hL)
    clear HNX HST
    go_wp2_with fail
    refine HGO.out.mono ?_
    rintro e w1 ⟨rfl,hb1⟩
    have HB1:=Hid.mk (hbw.out.trans (hb1.mono hbw.out.size))
    clear hb1 HGO
    go_wp2
    go_ret
    exact ⟨HB1.out,k,HS,by simp [hlt]⟩
   ·rw [decide_eq_false hL] at HGO
    have HS:=Hid.mk (HNX.out (by omega))
    clear HNX HST
    go_wp2_with fail
    refine HGO.out.mono ?_
    rintro e w1 ⟨rfl,hb1⟩
    have HB1:=Hid.mk (hbw.out.trans (hb1.mono hbw.out.size))
    clear hb1 HGO
    go_wp2
    exact ⟨⟨k+1,by omega,by go_num,HS,HB1⟩,by simp [intOf];omega⟩
  ·have hke:k=es.length:=by omega
   subst hke
   have q1:¬ (es.length:Int)<(es.length:Int):=by omega
   go_wp2
   go_ret
   exact ⟨hbw.out,es.length,⟨Nat.le_refl _,hall.out,fun h=>absurd h (Nat.lt_irrefl _)⟩,by simp⟩
theorem znS (cs:Array Value)(m:Nat):(Builtin.zeroCells cs m).size=m*cs.size:=by simp [Builtin.zeroCells]
theorem znT (cs:Array Value)(m:Nat)(h1:∀ u∈cs,u.oneCell' = true)(h0:0<cs.size):∀ u∈(Builtin.zeroCells cs m).toList,u.oneCell' = true:=by
 intro u hu
 obtain ⟨i,hi,rfl⟩:=List.mem_iff_getElem.1 hu
 have hm:i % cs.size<cs.size:=Nat.mod_lt _ h0
 simp only [Builtin.zeroCells]
 simp
 rw [getElem!_pos cs _ hm]
 exact h1 _ (Array.getElem_mem hm)
theorem zbT (w:World)(t e:TypeId)(z:List Value)(ht:Tryz.prog.underlying t=some (.slice e))(hv:∀ w,(zeroValue e).run Tryz.prog w = .ok (.agg z.toArray) w)(h1:∀ u∈z,u.oneCell' = true)(h0:0<z.length)(b o m c:Nat)(hm:0<m)
  (hc:∀ j,j<m*z.length→(w.cell? ⟨b,o+j,none⟩).isSome=true) (hf:∀ j,j<m*z.length→w.frozen? ⟨b,o+j,none⟩=false) :
  ∃ zl:List Value,zl.length=m*z.length∧∀ ty,(Builtin.clear_ #[t] ty #[.slice (some ⟨b,o,none⟩) m c]).run Tryz.prog w = .ok (.tuple #[]) (w.setCells b o zl):=by
 have hl:(Builtin.zeroCells (Value.agg z.toArray).cells m).toList.length=m*z.length:=by
  rw [Array.length_toList,znS]
  simp [Value.cells]
 refine ⟨(Builtin.zeroCells (Value.agg z.toArray).cells m).toList,hl,fun ty => ?_⟩
 have hst:=run_storeCells_cells (P:=Tryz.prog) b o (Builtin.zeroCells (Value.agg z.toArray).cells m).toList 0 w (fun j hj=>by rw [hl] at hj;simpa using hc j hj) (fun j hj=>by rw [hl] at hj;first | exact hf j hj | simp) (znT _ m (by simpa [Value.cells] using h1) (by simpa [Value.cells] using h0))
 simp only [Nat.add_zero] at hst
 obtain ⟨k,rfl⟩:∃ k,m=k+1:=⟨m - 1,by omega⟩
 simp [Builtin.clear_,run_underlying ht,hv,hst]
theorem RowC.cut {w:World}{col:Col}{κ:Nat × Nat}{e:TypeId}{s n g cap i:Nat}{xs zl:List Value}(h:RowC w col κ e s (.slice (some ⟨g,0,none⟩) n cap) n xs)(hi:i≤n)(hz:zl.length=(n - i)*s) :
  RowC (w.setCells g (i*s) zl) col κ e s (.slice (some ⟨g,0,none⟩) i cap) i (xs.take (i*s))∧FrC (fun x=>x=κ) col col w (w.setCells g (i*s) zl):=by
 have hcg:col g=κ:=h.col g rfl
 have hgr:w.grownBy (w.setCells g (i*s) zl) (some g):=zeu _ _ _
 refine ⟨⟨?_,fun q hq=>by cases hq;exact hcg⟩,⟨(Fr.refl _ w).step hgr (fun q hq=>by cases hq;exact .inr hcg),fun _ _=>rfl⟩⟩
 rcases h.own.2 with ⟨h0,_⟩ | ⟨g',cap',cur,hv,hg,hh,h1,h2,h3,h4⟩
 ·cases h0
 cases hv
 have hxl:=h.own.1
 have e1:i*s+(n - i)*s=n*s:=by rw [← Nat.add_mul];congr 1;omega
 have e4:n*s≤cap*s:=Nat.mul_le_mul_right s h1
 refine ⟨by rw [List.length_take,hxl];omega,.inr ⟨g,cap,_,rfl,hg,zeI zl _ hh,by omega,h2,by rw [zjy];exact h3,?_⟩⟩
 apply List.ext_getElem?
 intro k
 by_cases hk:k<i*s
 ·rw [List.getElem?_take_of_lt hk,Array.getElem?_toList,zjx _ _ _ _ (by omega),if_neg (by omega),List.getElem?_take_of_lt hk,← h4,List.getElem?_take_of_lt (by omega),Array.getElem?_toList]
 ·rw [List.getElem?_eq_none (by rw [List.length_take];omega),List.getElem?_eq_none (by rw [List.length_take];omega)]
theorem RowC.store3 {w:World}{col:Col}{κ:Nat × Nat}{n g cap i:Nat}{xs:List Pe}(h:RowC w col κ 85 3 (.slice (some ⟨g,0,none⟩) n cap) n (xs.flatMap Pe.cells))(hi:i<xs.length)(e:Pe) :
  RowC (((w.setCell ⟨g,i*3,none⟩ (.int .i64 e.num)).setCell ⟨g,i*3+1,none⟩ (.int .i64 e.org)).setCell ⟨g,i*3+2,none⟩ e.v) col κ 85 3 (.slice (some ⟨g,0,none⟩) n cap) n ((xs.set i e).flatMap Pe.cells)∧FrC (fun x=>x=κ) col col w (((w.setCell ⟨g,i*3,none⟩ (.int .i64 e.num)).setCell ⟨g,i*3+1,none⟩ (.int .i64 e.org)).setCell ⟨g,i*3+2,none⟩ e.v):=by
 obtain ⟨a1,b1⟩:=h.store (i*3) (.int .i64 e.num)
 obtain ⟨a2,b2⟩:=a1.store (i*3+1) (.int .i64 e.org)
 obtain ⟨a3,b3⟩:=a2.store (i*3+2) e.v
 refine ⟨?_,(b1.trans b2).trans b3⟩
 have s1:=zdv Pe.cells 3 Pe.cells_length xs i 0 (.int .i64 e.num) { xs[i] with num:=e.num } hi (by omega) rfl
 have s2:=zdv Pe.cells 3 Pe.cells_length (xs.set i { xs[i] with num:=e.num }) i 1 (.int .i64 e.org) { xs[i] with num:=e.num,org:=e.org } (by simpa using hi) (by omega) (by simp [Pe.cells])
 have s3:=zdv Pe.cells 3 Pe.cells_length ((xs.set i { xs[i] with num:=e.num }).set i { xs[i] with num:=e.num,org:=e.org }) i 2 e.v e (by simpa using hi) (by omega) (by simp [Pe.cells])
 rw [Nat.add_zero] at s1
 rw [s1,s2,s3] at a3
 simpa using a3
def keepE (L:Nat)(e:Pe):Bool:=decide (L<e.num)
structure DelAt (w wr:World)(col:Col)(κ:Nat × Nat)(g cap b L:Nat)(es xs:List Pe)(i j:Nat):Prop where
 row:RowC wr col κ 85 3 (.slice (some ⟨g,0,none⟩) es.length cap) es.length (xs.flatMap Pe.cells)
 len:xs.length=es.length
 fst:xs.take i=(es.take j).filter (keepE L)
 snd:xs.drop j=es.drop j
 fr:FrC (fun x=>x=κ) col col w wr
 box:wr.cell? ⟨b,0,none⟩=some (.int .i64 L)
section
variable {w wr w' : World} {col:Col} {κ:Nat × Nat} {g cap b L i j:Nat} {es xs:List Pe}
theorem DelAt.same (h:DelAt w wr col κ g cap b L es xs i j)(hb:Below wr.heap.size wr w'):DelAt w w' col κ g cap b L es xs i j :=
 ⟨h.row.kept (S:=fun _=>False) (zdJ hb) id,h.len,h.fst,h.snd,h.fr.trans (zdJ hb),(hb.cell (p:=⟨b,0,none⟩) (World.block_lt_of_cell? wr ⟨b,0,none⟩ h.box)).trans h.box⟩
theorem DelAt.ent (h:DelAt w wr col κ g cap b L es xs i j)(hj:j<es.length)(hjx:j<xs.length):xs[j]=es[j]:=by
 have h1:(xs.drop j)[0]? = (es.drop j)[0]? := by rw [h.snd]
 rw [List.getElem?_drop,List.getElem?_drop,Nat.add_zero,List.getElem?_eq_getElem hjx,List.getElem?_eq_getElem hj] at h1
 exact Option.some.inj h1
theorem zcx {α:Type}{a c:List α}{j:Nat}(h:a.drop j=c.drop j):a.drop (j+1)=c.drop (j+1):=by
 rw [← List.drop_drop,← List.drop_drop,h]
theorem DelAt.no (h:DelAt w wr col κ g cap b L es xs i j)(hj:j<es.length)(hg:(es[j]).num≤L):DelAt w wr col κ g cap b L es xs i (j+1) :=
 ⟨h.row,h.len,by rw [h.fst,List.take_succ_eq_append_getElem hj,List.filter_append,List.filter_cons_of_neg (by simp [keepE];exact hg)];simp,zcx h.snd,h.fr,h.box⟩
theorem DelAt.yes (h:DelAt w wr col κ g cap b L es xs i j)(hbg:b ≠ g)(hij:i<j)(hj:j<es.length)(hg:L<(es[j]).num) :
  DelAt w (((wr.setCell ⟨g,i*3,none⟩ (.int .i64 (es[j]).num)).setCell ⟨g,i*3+1,none⟩ (.int .i64 (es[j]).org)).setCell ⟨g,i*3+2,none⟩ (es[j]).v) col κ g cap b L es (xs.set i es[j]) (i+1) (j+1):=by
 have hix:i<xs.length:=by rw [h.len];omega
 obtain ⟨a1,a2⟩:=h.row.store3 hix es[j]
 refine ⟨a1,by rw [List.length_set,h.len],?_,?_,h.fr.trans a2,?_⟩
 ·rw [List.take_succ_eq_append_getElem (by simpa using hix),List.take_succ_eq_append_getElem hj,List.filter_append,List.filter_cons_of_pos (by simp [keepE];exact hg),← h.fst,List.take_set_of_le (Nat.le_refl _)]
  simp
 ·rw [List.drop_set_of_lt (by omega)]
  exact zcx h.snd
 ·rw [World.cell?_setCell_other _ _ _ _ (by simp),World.cell?_setCell_other _ _ _ _ (by simp),World.cell?_setCell_other _ _ _ _ (by simp)]
  exact h.box
end
set_option maxRecDepth 100000 in
theorem zci {κ:Nat × Nat}{col:Col}(g cap b L:Nat)(es:List Pe)(w:World)(hrow:RowC w col κ 85 3 (.slice (some ⟨g,0,none⟩) es.length cap) es.length (es.flatMap Pe.cells))(hv:∀ e∈es,∃ ad cp,e.v = .slice ad e.d.length cp)(hb:w.cell? ⟨b,0,none⟩=some (.int .i64 L))(hbg:b ≠ g)(hn:es.length≤1024) :
  Calls Tryz.prog 181 #[.slice (some ⟨g,0,none⟩) es.length cap,.func (.func 182) #[] #[.pointer (some ⟨b,0,none⟩)]] w fun e w' => e = .returned (.slice (some ⟨g,0,none⟩) (es.filter (keepE L)).length cap)∧Hid (RowC w' col κ 85 3 (.slice (some ⟨g,0,none⟩) (es.filter (keepE L)).length cap) (es.filter (keepE L)).length ((es.filter (keepE L)).flatMap Pe.cells))∧Hid (FrC (fun x=>x=κ) col col w w'):=by
 have HIX:=Hid.mk (zeX g cap b L es w hrow.own hv hb hn)
 have HROW:=Hid.mk hrow
 have HV:=Hid.mk hv
 have hbl:=World.block_lt_of_cell? w ⟨b,0,none⟩ hb
 clear hrow hv
 go_enter Tryz.func181,Tryz.ntmps181
 go_wp2_with fail
 refine HIX.out.mono ?_
 rintro e w1 ⟨hb1,k,hk,rfl⟩
 obtain ⟨hk1,hk2,hk3⟩:=hk.out
 by_cases hlt:k<es.length
 ·rw [if_pos hlt]
  have hne:((k:Int) == (-1:Int))=false:=beq_eq_false_iff_ne.2 (by omega)
  have HD0:Hid (DelAt w w1 col κ g cap b L es es k (k+1)):=⟨HROW.out.kept (S:=fun _=>False) (zdJ hb1) id,rfl,by
   rw [List.take_succ_eq_append_getElem hlt,List.filter_append,List.filter_cons_of_neg (by simp [keepE];exact hk3 hlt),List.filter_nil,List.append_nil]
   refine (List.filter_eq_self.2 fun e he => ?_).symm
   obtain ⟨j,hj,rfl⟩:=List.mem_iff_getElem.1 he
   rw [List.length_take] at hj
   rw [List.getElem_take]
   exact decide_eq_true (hk2 j (by omega) (by omega)),rfl,zdJ hb1,(hb1.cell (p:=⟨b,0,none⟩) hbl).trans hb⟩
  clear HIX hk hk1 hk2 hk3 hb1 HROW
  go_wp2
  go_loopw [5,6] (fun si sj wr=>∃ (i j:Nat) (xs:List Pe),i<j∧j≤es.length∧si = .int .i64 i∧sj = .int .i64 j∧Hid (DelAt w wr col κ g cap b L es xs i j)) (fun _ sj _=>es.length - (intOf sj).toNat)
  case atStart=>exact ⟨k,k+1,es,by omega,by omega,rfl,by go_num,HD0⟩
  case round =>
   clear HD0 hne
   obtain ⟨i,j,xs,hij,hj,rfl,rfl,hD⟩:=hrel
   obtain ⟨hc,hcap,hmax,hxl,hfz⟩:=zh0 hD.out.row.own
   by_cases hjl:j<es.length
   ·have hjx:j<xs.length:=by rw [hD.out.len];exact hjl
    have hx:=hD.out.ent hjl hjx
    have e0:wr.cell? ⟨g,j*3,none⟩=some (.int .i64 (es[j]).num):=hc _ _ (by rw [← Nat.add_zero (j*3),zds Pe.cells 3 Pe.cells_length xs j 0 hjx (by omega),hx];rfl)
    have e1:wr.cell? ⟨g,j*3+1,none⟩=some (.int .i64 (es[j]).org):=hc _ _ (by rw [zds Pe.cells 3 Pe.cells_length xs j 1 hjx (by omega),hx];rfl)
    have e2:wr.cell? ⟨g,j*3+2,none⟩=some (es[j]).v:=hc _ _ (by rw [zds Pe.cells 3 Pe.cells_length xs j 2 hjx (by omega),hx];rfl)
    have hix:i<xs.length:=by rw [hD.out.len];omega
    have hgl:g<wr.heap.size:=World.block_lt_of_cell? wr ⟨g,j*3,none⟩ e0
    obtain ⟨adv,cpv,hvv⟩:=HV.out _ (List.getElem_mem hjl)
    have HNO:Hid ((es[j]).num≤L→∀ W,Below wr.heap.size wr W→DelAt w W col κ g cap b L es xs i (j+1)):=fun hL W hW=>(hD.out.same hW).no hjl hL
    have HYS:Hid (L<(es[j]).num→∀ W,Below wr.heap.size wr W→(W.cell? ⟨g,i*3,none⟩).isSome=true∧(W.cell? ⟨g,i*3+1,none⟩).isSome=true∧(W.cell? ⟨g,i*3+2,none⟩).isSome=true∧(∀ o,W.frozen? ⟨g,o,none⟩=false)∧g<W.heap.size∧DelAt w (((W.setCell ⟨g,i*3,none⟩ (.int .i64 (es[j]).num)).setCell ⟨g,i*3+1,none⟩ (.int .i64 (es[j]).org)).setCell ⟨g,i*3+2,none⟩ (es[j]).v) col κ g cap b L es (xs.set i es[j]) (i+1) (j+1)):=fun hL W hW=>by
     have hD' := hD.out.same hW
     obtain ⟨hc',-,-,hxl',hfz'⟩:=zh0 hD'.row.own
     have hs:∀ t,t<3→(W.cell? ⟨g,i*3+t,none⟩).isSome=true:=fun t ht=>by
      have hlt' : i*3+t<(xs.flatMap Pe.cells).length:=by rw [hxl'];omega
      rw [hc' _ _ (List.getElem?_eq_getElem hlt')]
      rfl
     exact ⟨hs 0 (by omega),hs 1 (by omega),hs 2 (by omega),hfz',Nat.lt_of_lt_of_le hgl hW.size,hD'.yes hbg hij hjl hL⟩
    have HGO:=Hid.mk (fun W (hW:Below wr.heap.size wr W)=>zd7 (es[j]).num (es[j]).org adv (es[j]).d.length cpv b L W (hD.out.same hW).box)
    rw [hvv] at HYS e2
    clear hD hc hxl hx hvv
    generalize (es[j]).num=tn at *
    generalize (es[j]).org=tg at *
    generalize (es[j]).d.length=tl at *
    have q1:(j:Int)<(es.length:Int):=by omega
    have q2:(0:Int)≤(j:Int):=by omega
    have q3:(0:Int)≤(i:Int):=by omega
    have q4:(i:Int)<(es.length:Int):=by omega
    by_cases hL:tn≤L
    ·rw [decide_eq_true hL] at HGO
     have HN:=Hid.mk (HNO.out hL)
     clear HYS HNO
     go_wp2_with fail
     refine (HGO.out _ (zaO (Below.refl _ _) _)).mono ?_
     rintro e w2 ⟨rfl,hb2⟩
     have HN2:=Hid.mk (HN.out w2 ((zaO (Below.refl _ _) _).trans (hb2.mono (by simp))))
     clear hb2 HN HGO
     go_wp2
     exact ⟨⟨i,j+1,xs,by omega,by omega,rfl,by go_num,HN2⟩,by simp [intOf];omega⟩
    ·rw [decide_eq_false hL] at HGO
     have HY:=Hid.mk (HYS.out (by omega))
     clear HYS HNO
     go_wp2_with fail
     refine (HGO.out _ (zaO (Below.refl _ _) _)).mono ?_
     rintro e w2 ⟨rfl,hb2⟩
     obtain ⟨s0,s1,s2,sf,sg,hN⟩:=HY.out w2 ((zaO (Below.refl _ _) _).trans (hb2.mono (by simp)))
     have HN2:=Hid.mk hN
     obtain ⟨u0,c0⟩:=Option.isSome_iff_exists.1 s0
     obtain ⟨u1,c1⟩:=Option.isSome_iff_exists.1 s1
     obtain ⟨u2,c2⟩:=Option.isSome_iff_exists.1 s2
     have vb:=(hb2.block wr.heap.size (by simp)).trans (heap_alloc_new wr _)
     have v0:=zaX vb 0
     have v1:=zaX vb 1
     have v2:=zaX vb 2
     simp at v0 v1 v2
     clear hb2 HY HGO hN s0 s1 s2 vb
     go_wp2
     exact ⟨⟨i+1,j+1,_,by omega,by omega,by go_num,by go_num,HN2⟩,by simp [intOf];omega⟩
   ·have hje:j=es.length:=by omega
    subst hje
    have q1:¬ (es.length:Int)<(es.length:Int):=by omega
    have hxt:xs.take i=es.filter (keepE L):=by rw [hD.out.fst,List.take_of_length_le (Nat.le_refl _)]
    have hil:(es.filter (keepE L)).length=i:=by rw [← hxt,List.length_take,hD.out.len];omega
    obtain ⟨zl,hzl,hcl⟩:=zbT wr 81 85 zeroE Tryz.underlying81 znU (by decide) (by decide) g (i*3) (es.length - i) (cap - i) (by omega) (fun t ht=>by
     have ht' : t<(es.length - i)*3:=ht
     have hlt' : i*3+t<(xs.flatMap Pe.cells).length:=by rw [hxl];omega
     rw [hc _ _ (List.getElem?_eq_getElem hlt')]
     rfl) (fun t _=>hfz _)
    obtain ⟨r1,r2⟩:=hD.out.row.cut (i:=i) (zl:=zl) (by omega) hzl
    have hfl:(xs.flatMap Pe.cells).take (i*3)=(es.filter (keepE L)).flatMap Pe.cells:=by
     rw [← hxt]
     have:=zdt Pe.cells 3 Pe.cells_length (xs.take i)
     conv=>lhs;rw [← List.take_append_drop i xs,List.flatMap_append]
     rw [List.take_append_of_le_length (by rw [this,List.length_take,hD.out.len];omega),List.take_of_length_le (by rw [this,List.length_take,hD.out.len];omega)]
    rw [hfl] at r1
    have HR:=Hid.mk r1
    have HF:=Hid.mk (hD.out.fr.trans r2)
    have q3:(0:Int)≤(i:Int):=by omega
    have q4:(i:Int)≤(es.length:Int):=by omega
    have q5:(i:Int)≤(cap:Int):=by omega
    have q6:i≤es.length:=by omega
    have q7:i≤cap:=by omega
    have q8:¬ cap=i:=by omega
    have q9:(es.length:Int)≤(cap:Int):=by omega
    clear hD hc hfz hxl r1 r2 hfl hxt
    go_wp2
    go_ret
    exact ⟨rfl,HR,HF⟩
 ·rw [if_neg hlt]
  have hf:es.filter (keepE L)=es:=List.filter_eq_self.2 fun e he=>by
   obtain ⟨j,hj,rfl⟩:=List.mem_iff_getElem.1 he
   exact decide_eq_true (hk2 j hj (by omega))
  have HR1:Hid (RowC w1 col κ 85 3 (.slice (some ⟨g,0,none⟩) (es.filter (keepE L)).length cap) (es.filter (keepE L)).length ((es.filter (keepE L)).flatMap Pe.cells)):=by rw [hf];exact HROW.out.kept (S:=fun _=>False) (zdJ hb1) id
  have HF1:Hid (FrC (fun x=>x=κ) col col w w1):=zdJ hb1
  clear hk hk1 hk2 hk3 HIX HROW hb1
  go_wp2
  go_ret
  exact ⟨by rw [hf];rfl,HR1,HF1⟩
end Go.Proofs.YtahdlejgjcjeoabGreatDoor
