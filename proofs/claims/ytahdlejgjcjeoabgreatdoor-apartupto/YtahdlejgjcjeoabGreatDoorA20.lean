/- Walk of the laws' textOf. -/
import Derived.Test.YtahdlejgjcjeoabGreatDoorA06
import Derived.Test.YtahdlejgjcjeoabGreatDoorA14
import Derived.Test.YtahdlejgjcjeoabGreatDoorA08
import Derived.Test.YtahdlejgjcjeoabGreatDoorA17
import Derived.Test.YtahdlejgjcjeoabGreatDoorA16
namespace Go.Proofs.YtahdlejgjcjeoabGreatDoor
set_option maxHeartbeats 8000000
open Go.RowKit
def NewOr (X:Nat→Prop)(w:World)(v:Value):Prop:=∀ q,v.ownBlock=some q→w.heap.size≤q∨X q
structure OwnS (w0:World)(X:Nat→Prop)(b0:Option Nat)(va:Nat→Value)(es:Nat→List (Value × Int))(B baseL f:Nat)(k:Int)(N:Nat)(w:World)(v vf:Value)(ef:List (Value × Int)):Prop where
 inv:Bk w B (updF va f vf) (updF es f ef)
 own:w.ownsRow baseL (elT f) (szC f) v N (reps N (mkC f k))
 sepB:∀ q,v.ownBlock=some q→q<w.heap.size∧q ≠ B∧∀ j,j<4→some q ≠ (updF va f vf j).ownBlock
 cur:∀ p∈ef,∀ q,p.1.ownBlock=some q→v.ownBlock=some q→∃ m cap,p.1 = .slice (some ⟨q,0,none⟩) m cap∧m≤N∧m≤cap∧p.2=k
 vo:∀ j,j<4→j ≠ f→∀ p∈es j,∀ q,v.ownBlock=some q→p.1.ownBlock ≠ some q
 fr:Fr X w0 w
 xv:∀ q,v.ownBlock=some q→w0.heap.size≤q∨(X q∧some q=b0)
 ent:∀ p∈ef,p∈es f∨∀ q,p.1.ownBlock=some q→w0.heap.size≤q∨some q=b0
 xa:∀ q,vf.ownBlock=some q→w0.heap.size≤q∨X q
 base:baseL≤w.heap.size
 kb:0≤k∧k≤16777216
 nb:N≤16777216
 ff:f<4
theorem OwnS.below {w0:World}{X:Nat→Prop}{b0:Option Nat}{va:Nat→Value}{es:Nat→List (Value × Int)}{B baseL f N:Nat}{k:Int}{w w' : World}{v vf:Value}{ef:List (Value × Int)}(h:OwnS w0 X b0 va es B baseL f k N w v vf ef)(hb:Below w.heap.size w w'):OwnS w0 X b0 va es B baseL f k N w' v vf ef where
 inv:=h.inv.below hb
 own:=zh5 h.own hb
 sepB q hq:=⟨Nat.lt_of_lt_of_le (h.sepB q hq).1 hb.size,(h.sepB q hq).2⟩
 cur:=h.cur
 vo:=h.vo
 fr:=h.fr.below hb
 xv:=h.xv
 ent:=h.ent
 xa:=h.xa
 base:=Nat.le_trans h.base hb.size
 kb:=h.kb
 nb:=h.nb
 ff:=h.ff
theorem OwnS.append {w0:World}{X:Nat→Prop}{b0:Option Nat}{va:Nat→Value}{es:Nat→List (Value × Int)}{B baseL f N:Nat}{k:Int}{w w2:World}{v vf:Value}{ef:List (Value × Int)}(h:OwnS w0 X b0 va es B baseL f k N w v vf ef)(hN1:N+1≤16777216)(tmp:Obj){g cap:Nat}
  (hown:w2.ownsRow baseL (elT f) (szC f) (.slice (some ⟨g,0,none⟩) (N+1) cap) (N+1) (reps N (mkC f k) ++ mkC f k))
  (hcase:((w.alloc tmp).grownBy w2 none∧(w.alloc tmp).heap.size≤g)∨(v.ownBlock=some g∧(w.alloc tmp).grownBy w2 (some g))) :
  OwnS w0 X b0 va es B baseL f k (N+1) w2 (.slice (some ⟨g,0,none⟩) (N+1) cap) vf ef:=by
 have ha:=h.below (zaO (Below.refl _ w) tmp)
 have hf:=h.ff
 rw [← zkF] at hown
 have hglt:g<w2.heap.size:=zh3 hown g rfl
 rcases hcase with ⟨hg,hge⟩ | ⟨hv,hg⟩
 ·refine ⟨ha.inv.kept hg (by simp) (by simp) (by simp),hown,fun q hq => ?_,fun p hp q h1 h2 => ?_,fun j hj hjf p hp q hq e => ?_,ha.fr.step hg (fun q hq=>by cases hq),fun q hq => ?_,h.ent,h.xa,Nat.le_trans ha.base hg.size,h.kb,hN1,hf⟩
  ·obtain rfl:=zh2 hq
   have hB:=ha.inv.lt
   refine ⟨hglt,by omega,fun j hj e => ?_⟩
   have:=zh3 (ha.inv.row j hj) g e.symm
   omega
  ·obtain rfl:=zh2 h2
   have:=(ha.inv.sep f hf p (by rw [zne];exact hp) _ h1).1
   omega
  ·obtain rfl:=zh2 hq
   have:=(ha.inv.sep j hj p (by rw [znd _ _ hjf];exact hp) _ e).1
   omega
  ·obtain rfl:=zh2 hq
   left
   have:=ha.fr.size
   omega
 ·have hs:=h.sepB g hv
  have hmr:∀ i,i<N+1→∀ j u,(mkC f k)[j]? = some u→w2.cell? ⟨g,i*szC f+j,none⟩=some u:=by
   have hl:=zgy f k
   rw [← hl] at hown ⊢
   obtain ⟨ad,cap',e,_,H⟩:=zgo hown
   cases e
   obtain ⟨b,off,e,_,H⟩:=H (by omega)
   cases e
   intro i hi j u hu
   have:=H i hi j u hu
   rwa [Nat.zero_add] at this
  have hcur:∀ p∈ef,p.1.ownBlock=some g→∃ m cap,p.1 = .slice (some ⟨g,0,none⟩) m cap∧m≤N+1∧m≤cap∧p.2=k:=fun p hp e=>by
   obtain ⟨m,c,h1,h2,h3,h4⟩:=h.cur p hp g e hv
   exact ⟨m,c,h1,by omega,h3,h4⟩
  refine ⟨ha.inv.inplace hf hg hs.2.1 hs.2.2 hmr hglt hN1 (fun j hj hjf p hp=>by rw [znd _ _ hjf] at hp;exact h.vo j hj hjf p hp g hv) (by rw [zne];exact hcur),hown,fun q hq => ?_,fun p hp q h1 h2 => ?_,fun j hj hjf p hp q hq => ?_,ha.fr.step hg (fun q hq=>by cases hq;exact (h.xv g hv).imp id And.left),fun q hq => ?_,h.ent,h.xa,Nat.le_trans ha.base hg.size,h.kb,hN1,hf⟩
  ·obtain rfl:=zh2 hq;exact ⟨hglt,hs.2⟩
  ·obtain rfl:=zh2 h2;exact hcur p hp h1
  ·obtain rfl:=zh2 hq;exact h.vo j hj hjf p hp g hv
  ·obtain rfl:=zh2 hq;exact h.xv g hv
theorem OwnS.push {w0:World}{X:Nat→Prop}{b0:Option Nat}{va:Nat→Value}{es:Nat→List (Value × Int)}{B baseL f N:Nat}{k:Int}{w w2:World}{v vf:Value}{ef:List (Value × Int)}(h:OwnS w0 X b0 va es B baseL f k N w v vf ef)(hXB:X B)(tmp:Obj){g cap:Nat}
  (hown:w2.ownsRow (B+1) (eT f) 2 (.slice (some ⟨g,0,none⟩) (ef.length+1) cap) (ef.length+1) (flatE ef ++ [v,.int .i64 k]))
  (hcase:((w.alloc tmp).grownBy w2 none∧(w.alloc tmp).heap.size≤g)∨(vf.ownBlock=some g∧(w.alloc tmp).grownBy w2 (some g))) :
  OwnS w0 X b0 va es B baseL f k N (w2.setCell ⟨B,f,none⟩ (.slice (some ⟨g,0,none⟩) (ef.length+1) cap)) v (.slice (some ⟨g,0,none⟩) (ef.length+1) cap) (ef ++ [(v,k)]):=by
 have hf:=h.ff
 have hgd:∃ n,n≤16777216∧MarkRow w v (szC f) n (mkC f k):=by
  have ho:=h.own
  have hl:=zgy f k
  rw [← hl] at ho ⊢
  exact ⟨N,h.nb,zgo ho⟩
 have hI:=h.inv.push hf v k (g:=g) (cap:=cap) tmp h.kb hgd h.sepB (fun j hj hjf p hp q hq=>by rw [znd _ _ hjf] at hp;exact h.vo j hj hjf p hp q hq) (by rw [zne];exact hown) (by rw [zne];exact hcase)
 rw [zng,zng,zne] at hI
 have hsc:=zet w2 ⟨B,f,none⟩ (.slice (some ⟨g,0,none⟩) (ef.length+1) cap)
 have hal:w.grownBy (w.alloc tmp) none:=World.grownBy_alloc w tmp none
 have hgB:B+1≤g:=zh4 hown g rfl
 have hvf:∀ q,v.ownBlock=some q→some q ≠ vf.ownBlock:=fun q hq=>by have:=(h.sepB q hq).2.2 f hf;rwa [zne] at this
 obtain ⟨row,hg,hrow⟩:∃ row,w.grownBy w2 row∧∀ q,row=some q→vf.ownBlock=some q:=by
  rcases hcase with ⟨h1,_⟩ | ⟨h1,h2⟩
  ·exact ⟨none,zev hal h1,fun q hq=>by cases hq⟩
  ·exact ⟨some g,zev (hal.but _) h2,fun q hq=>by cases hq;exact h1⟩
 have hv1:w2.ownsRow baseL (elT f) (szC f) v N (reps N (mkC f k)):=zia h.own hg (fun q hq e=>hvf q hq (hrow q e.symm).symm)
 refine ⟨hI,zia hv1 hsc (fun q hq e=>(h.sepB q hq).2.1 (by cases e;rfl)),fun q hq => ?_,fun p hp q h1 h2 => ?_,h.vo,(h.fr.step hg (fun q hq=>h.xa q (hrow q hq))).step hsc (fun q hq=>by cases hq;exact .inr hXB),h.xv,fun p hp => ?_,fun q hq => ?_,Nat.le_trans h.base (Nat.le_trans hg.size hsc.size),h.kb,h.nb,hf⟩
 ·have hs:=h.sepB q hq
  refine ⟨Nat.lt_of_lt_of_le hs.1 (Nat.le_trans hg.size hsc.size),hs.2.1,fun j hj e => ?_⟩
  by_cases hjf:j=f
  ·subst hjf
   rw [zne] at e
   have hqg:q=g:=by cases e;rfl
   rcases hcase with ⟨_,h2⟩ | ⟨h2,_⟩
   ·simp at h2;omega
   ·exact hvf q hq (by rw [h2,hqg])
  ·have:=hs.2.2 j hj
   rw [znd _ _ hjf] at e this
   exact this e
 ·rcases List.mem_append.1 hp with hp | hp
  ·exact h.cur p hp q h1 h2
  ·rw [List.mem_singleton] at hp
   subst hp
   rcases h.own.2 with ⟨h0,_⟩ | ⟨g',cap',cur,hv',_,_,hle,_⟩
   ·rw [h0] at h2;cases h2
   ·rw [hv'] at h2
    cases h2
    exact ⟨N,cap',hv',Nat.le_refl _,hle,rfl⟩
 ·rcases List.mem_append.1 hp with hp | hp
  ·exact h.ent p hp
  ·rw [List.mem_singleton] at hp
   subst hp
   exact .inr fun q hq=>(h.xv q hq).imp id And.right
 ·obtain rfl:=zh2 hq
  rcases hcase with ⟨_,h2⟩ | ⟨h2,_⟩
  ·left
   have:=h.fr.size
   simp at h2
   omega
  ·exact h.xa g h2
theorem Bk.after {w w2:World}{B g f:Nat}{va:Nat→Value}{es:Nat→List (Value × Int)}(h:Bk w B va es)(hf:f<4)(tmp:Obj)
  (hcase:((w.alloc tmp).grownBy w2 none∧(w.alloc tmp).heap.size≤g)∨((va f).ownBlock=some g∧(w.alloc tmp).grownBy w2 (some g))):w2.cell? ⟨B,f,none⟩=some (va f)∧w2.frozen? ⟨B,f,none⟩=false:=by
 have hal:w.grownBy (w.alloc tmp) none:=World.grownBy_alloc w tmp none
 rcases hcase with ⟨h1,_⟩ | ⟨h1,h2⟩
 ·have hg:=zev hal h1
  exact ⟨hg.cell (h.c f hf) (by simp),by rw [← h.fz f];exact World.frozen?_of_block (w:=w) (hg.block B h.lt (by simp))⟩
 ·have hg:=zev (hal.but _) h2
  have hne:some B ≠ some g:=fun e=>by
   have:=zh4 (h.row f hf) g h1
   cases e
   omega
  exact ⟨hg.cell (h.c f hf) hne,by rw [← h.fz f];exact World.frozen?_of_block (w:=w) (hg.block B h.lt hne)⟩
theorem zih {w:World}{base g cap n:Nat}{e:TypeId}{xs:List Value}(h:w.ownsRow base e 1 (.slice (some ⟨g,0,none⟩) n cap) n xs)(i:Nat)(_hi:i<n)(u:Value) :
  (w.setCell ⟨g,i,none⟩ u).ownsRow base e 1 (.slice (some ⟨g,0,none⟩) n cap) n (xs.set i u):=by
 rcases h.2 with ⟨h0,_⟩ | ⟨g',cap',cur,hv,hg,hh,h1,h2,h3,h4⟩
 ·cases h0
 cases hv
 refine ⟨by rw [List.length_set];exact h.1,.inr ⟨g,cap,_,rfl,hg,zeK hh u,h1,h2,by simp [h3],?_⟩⟩
 rw [Array.toList_setIfInBounds,← h4,List.take_set]
theorem zh6 {w:World}{base g cap n:Nat}{e:TypeId}{xs:List Value}(h:w.ownsRow base e 1 (.slice (some ⟨g,0,none⟩) n cap) n xs)(i:Nat)(hi:i<n) :
  (∃ u,w.cell? ⟨g,i,none⟩=some u∧xs[i]? = some u)∧w.frozen? ⟨g,i,none⟩=false:=by
 rcases h.2 with ⟨h0,_⟩ | ⟨g',cap',cur,hv,hg,hh,h1,h2,h3,h4⟩
 ·cases h0
 cases hv
 have hlt:i<cur.size:=by rw [h3];omega
 refine ⟨⟨cur[i],?_,?_⟩,by simp [World.frozen?,hh]⟩
 ·simp [World.cell?,hh,hlt]
 ·rw [← h4,List.getElem?_take,if_pos (by omega),Array.getElem?_toList,Array.getElem?_eq_getElem hlt]
theorem zar {L:List Value}{n:Nat}{u:Value}(hl:L.length=n)(h:∀ t,t<n→L[t]? = some u):L=reps n [u]:=by
 apply List.ext_getElem?
 intro i
 by_cases hi:i<n
 ·have:=zkD (n:=n) (c := [u]) (j:=0) (u:=u) hi rfl
  rw [h i hi]
  simpa using this.symm
 ·rw [List.getElem?_eq_none (by omega),List.getElem?_eq_none (by rw [zkE];simp;omega)]
def bk0:Nat→Value:=fun _ => .slice none 0 0
def es0:Nat→List (Value × Int):=fun _ => []
theorem bk_new (w:World):Bk (w.alloc (.cells #[.slice none 0 0,.slice none 0 0,.slice none 0 0,.slice none 0 0] 69)) w.heap.size bk0 es0 where
 c f hf:=by
  have hb:=heap_alloc_new w (.cells #[.slice none 0 0,.slice none 0 0,.slice none 0 0,.slice none 0 0] 69)
  rcases (show f=0∨f=1∨f=2∨f=3 by omega) with rfl | rfl | rfl | rfl
  ·exact World.news_of_block hb 0 _ rfl
  ·exact World.news_of_block hb 1 _ rfl
  ·exact World.news_of_block hb 2 _ rfl
  ·exact World.news_of_block hb 3 _ rfl
 fz o:=by
  have hb:=heap_alloc_new w (.cells #[.slice none 0 0,.slice none 0 0,.slice none 0 0,.slice none 0 0] 69)
  unfold World.frozen?
  rw [hb]
  simp
 row f hf:=⟨rfl,.inl ⟨rfl,rfl⟩⟩
 good f hf p hp:=by cases hp
 bnd f hf p hp:=by cases hp
 sep f hf p hp:=by cases hp
 apart f j hf hj hne q hq:=by cases hq
 cross f j hf hj hne p hp:=by cases hp
theorem zdA (n:Nat)(a:At):flat (List.replicate n a)=reps n (enc a):=by
 induction n with
 | zero=>rfl
 | succ n ih =>
  rw [zkF,← ih,List.replicate_succ']
  simp [flat]
set_option maxRecDepth 100000 in
theorem zhW (B:Nat)(va:Nat→Value)(vl:Value)(es:Nat→List (Value × Int))(baseL n:Nat)(L:List At)(w:World)
  (hI:Bk w B va es) (hL:w.ownsRow baseL 76 6 vl n (flat L)) (hn:L.length=n) (hbase:baseL≤w.heap.size)
  (hsep:∀ q,vl.ownBlock=some q→q<w.heap.size∧q ≠ B∧(∀ j,j<4→some q ≠ (va j).ownBlock)∧∀ j,j<4→∀ p∈es j,p.1.ownBlock ≠ some q)
  (hlen:n≤8388608) (hes:(es 0).length≤16000000) :
  Calls Tryz.prog 93 #[.pointer (some ⟨B,0,none⟩),vl] w fun e w' => e = .returned (.tuple #[])∧∃ vf ef,Hid (Bk w' B (updF va 0 vf) (updF es 0 ef))∧ef.length=(es 0).length+4∧Hid ((∀ p∈ef,p∈es 0∨∀ q,p.1.ownBlock=some q→w.heap.size≤q∨some q=vl.ownBlock)∧NewOr (fun q=>q=B∨some q=vl.ownBlock∨some q=(va 0).ownBlock) w vf)∧Hid (Fr (fun q=>q=B∨some q=vl.ownBlock∨some q=(va 0).ownBlock) w w'):=by
 obtain ⟨X,hX⟩:∃ X:Nat→Prop,X=fun q=>q=B∨some q=vl.ownBlock∨some q=(va 0).ownBlock:=⟨_,rfl⟩
 rw [← hX]
 have HXB:Hid (X B):=by rw [hX];exact .inl rfl
 have HXV:Hid (∀ q,vl.ownBlock=some q→X q):=by rw [hX];exact fun q hq => .inr (.inl hq.symm)
 have HXA:Hid (∀ q,(va 0).ownBlock=some q→X q):=by rw [hX];exact fun q hq => .inr (.inr hq.symm)
 clear hX
 obtain ⟨adL,capL,rfl⟩:=zh1 hL
 obtain ⟨adA,capA,hva⟩:=zh1 (hI.row 0 (by decide))
 have c0:=hI.c 0 (by decide)
 rw [hva] at c0
 have HVA:Hid (va 0 = .slice adA (es 0).length capA):=hva
 have HI:Hid (Bk w B va es):=hI
 have HL:Hid (w.ownsRow baseL 76 6 (.slice adL n capL) n (flat L)):=hL
 have HSEP:Hid (∀ q,(Value.slice adL n capL).ownBlock=some q→q<w.heap.size∧q ≠ B∧(∀ j,j<4→some q ≠ (va j).ownBlock)∧∀ j,j<4→∀ p∈es j,p.1.ownBlock ≠ some q):=hsep
 clear hI hL hsep hva
 obtain ⟨i0,hi,hz0,hz1,hz2⟩:=info_parts zeZ
 obtain ⟨i1,hi1,hy0,hy1,hy2⟩:=info_parts zfd
 obtain ⟨K,HK⟩:∃ K,Hid (K=(es 0).length):=⟨_,rfl⟩
 rw [← HK.out] at c0 hes
 obtain ⟨M,HT⟩:∃ M,Hid (mark K=M):=⟨_,rfl⟩
 have HTX:Hid (∀ W,Calls Tryz.prog 36 #[.int .i64 K] W fun e w' => e = .returned (.agg #[.int .i64 M.ty,.string M.key,.int .i64 M.side,.int .i64 M.who,.string M.elem,.int .i64 M.n])∧Below W.heap.size W w'):=fun W=>by rw [← HT.out];exact zaB K W (by omega) (by omega)
 go_enter Tryz.func93,Tryz.ntmps93
 go_wp2
 go_loopw [5] (fun i wr=>∃ (j:Nat) (L' : List At),j≤n∧i = .int .i64 j∧L'.length=n∧Hid (wr.ownsRow baseL 76 6 (.slice adL n capL) n (flat L'))∧Hid (∀ t,t<j→nth L' t=M)∧Hid (Bk wr B va es)∧Hid (Fr X w wr)) (fun i _=>n - (intOf i).toNat)
 case atStart=>exact ⟨0,L,Nat.zero_le _,rfl,hn,HL,fun t ht=>by omega,HI,Fr.refl _ _⟩
 case round =>
  clear c0
  obtain ⟨j,L',hj,rfl,hlL,hown,hmk,hinv,hfr⟩:=hrel
  by_cases hl:j<n
  ·obtain ⟨g,rfl⟩:∃ g,adL=some ⟨g,0,none⟩:=by
    rcases hown.out.2 with ⟨_,h0⟩ | ⟨g,cap,cur,hv,_⟩
    ·omega
    ·cases hv;exact ⟨g,rfl⟩
   have hsg:=HSEP.out g rfl
   have q1:(j:Int)<(n:Int):=by omega
   go_wp2_with fail
   refine (HTX.out _).mono ?_
   rintro e w3 ⟨rfl,hb3⟩
   have hown3:=zh5 hown.out hb3
   have hinv3:=hinv.out.below hb3
   have hfr3:=hfr.out.below hb3
   obtain ⟨⟨d0,d1,d2,d3,d4,d5⟩,hf⟩:=zh7 hown3 hlL.symm j (by omega)
   have hst:=zig hown3 hlL.symm j (by omega) M
   have hgr:=zeu (g:=g) (enc M) (j*6) w3
   have HI3:Hid (Bk (w3.setCells g (j*6) (enc M)) B va es):=hinv3.kept hgr (fun e=>hsg.2.1 (by cases e;rfl)) (fun t ht q hq e=>hsg.2.2.1 t ht (by rw [hq,e])) (fun t ht p hp q hq e=>hsg.2.2.2 t ht p hp (by rw [hq,e]))
   have HF3:Hid (Fr X w (w3.setCells g (j*6) (enc M))):=hfr3.step hgr (fun q hq=>by cases hq;exact .inr (HXV.out g rfl))
   have HM3:Hid (∀ t,t<j+1→nth (L'.set j M) t=M):=by
    intro t ht
    by_cases e:t=j
    ·subst e;simp [nth,show t<L'.length by omega]
    ·have:=hmk.out t (by omega)
     simpa [nth,Ne.symm e] using this
   have HST:Hid ((w3.setCells g (j*6) (enc M)).ownsRow baseL 76 6 (.slice (some ⟨g,0,none⟩) n capL) n (flat (L'.set j M))):=hst
   have HLL:Hid ((L'.set j M).length=n):=by rw [Hid];simpa using hlL
   clear hst hgr hown hb3 hown3 hinv3 hfr3 hinv hfr hmk hsg
   generalize nth L' j=y at *
   go_wp2
   exact ⟨⟨j+1,_,by omega,by go_num,HLL,HST,HM3,HI3,HF3⟩,by simp [intOf];omega⟩
  ·have hjn:j=n:=by omega
   subst hjn
   have hLm:=zaq (k:=K) hlL (by rw [HT.out];exact hmk.out)
   have hown' := hown.out
   rw [hLm,zdA] at hown'
   have hst:OwnS w X (Value.slice adL j capL).ownBlock va es B baseL 0 K j wr (.slice adL j capL) (.slice adA K capA) (es 0):=⟨by rw [HK.out,← HVA.out,znf,znf];exact hinv.out,hown',fun q hq=>⟨Nat.lt_of_lt_of_le (HSEP.out q hq).1 hfr.out.size,(HSEP.out q hq).2.1,by rw [HK.out,← HVA.out,znf];exact (HSEP.out q hq).2.2.1⟩,fun p hp q h1 h2=>absurd h1 ((HSEP.out q h2).2.2.2 0 (by decide) p hp),fun t ht _ p hp q hq=>(HSEP.out q hq).2.2.2 t ht p hp,hfr.out,fun q hq => .inr ⟨HXV.out q hq,hq.symm⟩,fun p hp => .inl hp,fun q hq => .inr (HXA.out q (by rw [HVA.out,← HK.out];exact hq)),Nat.le_trans hbase hfr.out.size,⟨by omega,by omega⟩,by omega,by decide⟩
   have hinvr:=hst.inv
   have cr:=hinvr.c 0 (by decide)
   have hlt:=hinvr.lt
   have hrowr:=hinvr.row 0 (by decide)
   rw [zne] at cr
   rw [zne,zne] at hrowr
   have HEL:Hid ((es 0).length=K):=HK.out.symm
   rw [HEL.out] at hrowr
   clear hown hown' hmk hinv hfr hLm HSEP HI HL hlL
   have HST:Hid (OwnS w X (Value.slice adL j capL).ownBlock va es B baseL 0 K j wr (.slice adL j capL) (.slice adA K capA) (es 0)):=hst
   clear hst hinvr
   have hrow2:wr.ownsRow (B+1) 74 2 (.slice adA K capA) K (flatE (es 0)):=hrowr
   clear hrowr
   go_wp2_with (at_builtin;refine znH _ rfl _ _ 64 rfl (B+1) 74 i1 _ 2 32 Tryz.underlying64 hi1 hy0 hy1 hy2 rfl (by decide) _ K _ rfl (hrow2.alloc _) ⟨wr.heap.size,0,none⟩ 1 1 [.slice adL j capL,.int .i64 K] rfl rfl (zg2 wr _ _ _) (zio rfl _) (by decide) (by unfold maxLen;omega) (by omega) (by simp;omega) ?_;intro gA capA' wA hownA hcaseA;obtain ⟨ca,fa⟩:=HST.out.inv.after (f:=0) (by decide) _ (by rw [zne];exact hcaseA);rw [zne] at ca)
   have HS1:=HST.out.push HXB.out _ (by rw [HEL.out];exact hownA) hcaseA
   rw [HEL.out] at HS1
   clear HST cr hrow2 hownA hcaseA ca fa hlt
   go_loopw [1,6] (fun s1 s6 wr=>∃ (r:Nat) (vf:Value) (ef:List (Value × Int)),r≤3∧s6 = .int .i64 r∧ef.length=K+1+r∧Hid (OwnS w X (Value.slice adL j capL).ownBlock va es B baseL 0 K (j+r) wr s1 vf ef)) (fun _ s6 _=>3 - (intOf s6).toNat)
   case atStart=>exact ⟨0,_,_,by omega,rfl,by rw [List.length_append,HEL.out];rfl,HS1⟩
   case round =>
    clear HS1
    obtain ⟨r,vf,ef,hr,rfl,hes',hst⟩:=hrel
    have HES:Hid (ef.length=K+1+r):=hes'
    have hesle:ef.length≤16000004:=by omega
    clear hes'
    by_cases hr3:r<3
    ·obtain ⟨ad1,cap1,hv1⟩:=zh1 hst.out.own
     subst hv1
     go_wp2_with fail
     refine (HTX.out _).mono ?_
     rintro e w3 ⟨rfl,hb3⟩
     have hst3:=hst.out.below hb3
     have hown3:w3.ownsRow baseL 76 6 (.slice ad1 (j+r) cap1) (j+r) (reps (j+r) (enc M)):=by rw [← HT.out];exact hst3.own
     have hbase3:=hst3.base
     have HS3:Hid (OwnS w X (Value.slice adL j capL).ownBlock va es B baseL 0 K (j+r) w3 (.slice ad1 (j+r) cap1) vf ef):=hst3
     clear hst hst3 hb3
     go_wp2_with (first | (at_builtin;have _t:=hown3;refine znH _ rfl _ _ 53 rfl baseL 76 i0 _ 6 64 Tryz.underlying53 hi hz0 hz1 hz2 rfl (by decide) _ (j+r) _ rfl (hown3.alloc _) ⟨w3.heap.size,0,none⟩ 1 1 (enc M) rfl rfl (zgZ w3 M _) (zcS M) (by decide) (by unfold maxLen;omega) (by omega) (by simp;omega) ?_;intro gL capN wN hownN hcaseN;have HSN:Hid (OwnS w X (Value.slice adL j capL).ownBlock va es B baseL 0 K (j+r+1) wN (.slice (some ⟨gL,0,none⟩) (j+r+1) capN) vf ef):=HS3.out.append (by omega) _ (by have hx:=hownN;rw [← HT.out] at hx;exact hx) hcaseN;have cN:=HSN.out.inv.c 0 (by decide);have hltN:=HSN.out.inv.lt;have hrowN:=HSN.out.inv.row 0 (by decide);rw [zne] at cN;rw [zne,zne] at hrowN;obtain ⟨adF,capF,hvF⟩:=zh1 hrowN;subst hvF;have hrowM:wN.ownsRow (B+1) 74 2 (.slice adF ef.length capF) ef.length (flatE ef):=hrowN;clear hownN hcaseN hown3 HS3 hrowN) | (at_builtin;refine znH _ rfl _ _ 64 rfl (B+1) 74 i1 _ 2 32 Tryz.underlying64 hi1 hy0 hy1 hy2 rfl (by decide) _ ef.length _ rfl (hrowM.alloc _) ⟨wN.heap.size,0,none⟩ 1 1 [.slice (some ⟨gL,0,none⟩) (j+r+1) capN,.int .i64 K] rfl rfl (zg2 wN _ _ _) (zio rfl _) (by decide) (by unfold maxLen;omega) (by omega) (by simp;omega) ?_;intro gA capA' wA hownA hcaseA;obtain ⟨ca,fa⟩:=HSN.out.inv.after (f:=0) (by decide) _ (by rw [zne];exact hcaseA);rw [zne] at ca))
     have HS4:=HSN.out.push HXB.out _ hownA hcaseA
     clear HSN cN hrowM hownA hcaseA ca fa hltN
     exact ⟨⟨r+1,_,_,by omega,by go_num,by have:=HES.out;rw [List.length_append];show ef.length+1=_;omega,HS4⟩,by simp [intOf];omega⟩
    ·go_wp2
     go_end0
     exact ⟨rfl,vf,ef,hst.out.inv,by have:=HES.out;have:=HEL.out;omega,⟨hst.out.ent,hst.out.xa⟩,hst.out.fr⟩
theorem zfa:(Tryz.prog.info? 80).map (fun i=>(i.zero,i.size,i.bytes))=some (some (.agg #[.slice none 0 0,.int .i64 0]),2,32):=by kernel_rfl
set_option maxRecDepth 100000 in
theorem zhY (B:Nat)(va:Nat→Value)(vl:Value)(es:Nat→List (Value × Int))(baseL n:Nat)(L:List Value)(w:World)
  (hI:Bk w B va es) (hL:w.ownsRow baseL 3 1 vl n L) (hbase:baseL≤w.heap.size)
  (hsep:∀ q,vl.ownBlock=some q→q<w.heap.size∧q ≠ B∧(∀ j,j<4→some q ≠ (va j).ownBlock)∧∀ j,j<4→∀ p∈es j,p.1.ownBlock ≠ some q)
  (hlen:n≤8388608) (hes:(es 1).length≤16000000) :
  Calls Tryz.prog 135 #[.pointer (some ⟨B,0,none⟩),vl] w fun e w' => e = .returned (.tuple #[])∧∃ vf ef,Hid (Bk w' B (updF va 1 vf) (updF es 1 ef))∧ef.length=(es 1).length+4∧Hid ((∀ p∈ef,p∈es 1∨∀ q,p.1.ownBlock=some q→w.heap.size≤q∨some q=vl.ownBlock)∧NewOr (fun q=>q=B∨some q=vl.ownBlock∨some q=(va 1).ownBlock) w vf)∧Hid (Fr (fun q=>q=B∨some q=vl.ownBlock∨some q=(va 1).ownBlock) w w'):=by
 obtain ⟨X,hX⟩:∃ X:Nat→Prop,X=fun q=>q=B∨some q=vl.ownBlock∨some q=(va 1).ownBlock:=⟨_,rfl⟩
 rw [← hX]
 have HXB:Hid (X B):=by rw [hX];exact .inl rfl
 have HXV:Hid (∀ q,vl.ownBlock=some q→X q):=by rw [hX];exact fun q hq => .inr (.inl hq.symm)
 have HXA:Hid (∀ q,(va 1).ownBlock=some q→X q):=by rw [hX];exact fun q hq => .inr (.inr hq.symm)
 clear hX
 obtain ⟨adL,capL,rfl⟩:=zh1 hL
 obtain ⟨adA,capA,hva⟩:=zh1 (hI.row 1 (by decide))
 have c1:=hI.c 1 (by decide)
 rw [hva] at c1
 have HVA:Hid (va 1 = .slice adA (es 1).length capA):=hva
 have HI:Hid (Bk w B va es):=hI
 have HL:Hid (w.ownsRow baseL 3 1 (.slice adL n capL) n L):=hL
 have HSEP:Hid (∀ q,(Value.slice adL n capL).ownBlock=some q→q<w.heap.size∧q ≠ B∧(∀ j,j<4→some q ≠ (va j).ownBlock)∧∀ j,j<4→∀ p∈es j,p.1.ownBlock ≠ some q):=hsep
 have hn:L.length=n:=by have:=hL.1;omega
 clear hI hL hsep hva
 obtain ⟨i0,hi,hz0,hz1,hz2⟩:=info_parts zfb
 obtain ⟨i1,hi1,hy0,hy1,hy2⟩:=info_parts zfa
 obtain ⟨K,HK⟩:∃ K,Hid (K=(es 1).length):=⟨_,rfl⟩
 rw [← HK.out] at c1 hes
 go_enter Tryz.func135,Tryz.ntmps135
 go_wp2
 go_loopw [5] (fun i wr=>∃ (j:Nat) (L' : List Value),j≤n∧i = .int .i64 j∧L'.length=n∧Hid (wr.ownsRow baseL 3 1 (.slice adL n capL) n L')∧Hid (∀ t,t<j→L'[t]? = some (.int .i64 (-1 - (K:Int))))∧Hid (Bk wr B va es)∧Hid (Fr X w wr)) (fun i _=>n - (intOf i).toNat)
 case atStart=>exact ⟨0,L,Nat.zero_le _,rfl,hn,HL,fun t ht=>by omega,HI,Fr.refl _ _⟩
 case round =>
  clear c1
  obtain ⟨j,L',hj,rfl,hlL,hown,hmk,hinv,hfr⟩:=hrel
  by_cases hl:j<n
  ·obtain ⟨g,rfl⟩:∃ g,adL=some ⟨g,0,none⟩:=by
    rcases hown.out.2 with ⟨_,h0⟩ | ⟨g,cap,cur,hv,_⟩
    ·omega
    ·cases hv;exact ⟨g,rfl⟩
   have hsg:=HSEP.out g rfl
   have q1:(j:Int)<(n:Int):=by omega
   obtain ⟨w3,rfl⟩:∃ w3:World,w3=wr:=⟨_,rfl⟩
   have hown3:=hown.out
   have hinv3:=hinv.out
   have hfr3:=hfr.out
   obtain ⟨⟨u,d0,-⟩,f0⟩:=zh6 hown3 j (by omega)
   have hst:=zih hown3 j (by omega) (.int .i64 (-1 - (K:Int)))
   have hgr:=zet w3 ⟨g,j,none⟩ (.int .i64 (-1 - (K:Int)))
   have HI3:Hid (Bk (w3.setCell ⟨g,j,none⟩ (.int .i64 (-1 - (K:Int)))) B va es):=hinv3.kept hgr (fun e=>hsg.2.1 (by cases e;rfl)) (fun t ht q hq e=>hsg.2.2.1 t ht (by rw [hq,e])) (fun t ht p hp q hq e=>hsg.2.2.2 t ht p hp (by rw [hq,e]))
   have HF3:Hid (Fr X w (w3.setCell ⟨g,j,none⟩ (.int .i64 (-1 - (K:Int))))):=hfr3.step hgr (fun q hq=>by cases hq;exact .inr (HXV.out g rfl))
   have HM3:Hid (∀ t,t<j+1→(L'.set j (.int .i64 (-1 - (K:Int))))[t]? = some (.int .i64 (-1 - (K:Int)))):=by
    intro t ht
    by_cases e:t=j
    ·subst e;simp [show t<L'.length by omega]
    ·have:=hmk.out t (by omega)
     simpa [Ne.symm e] using this
   have HST:Hid ((w3.setCell ⟨g,j,none⟩ (.int .i64 (-1 - (K:Int)))).ownsRow baseL 3 1 (.slice (some ⟨g,0,none⟩) n capL) n (L'.set j (.int .i64 (-1 - (K:Int))))):=hst
   have HLL:Hid ((L'.set j (.int .i64 (-1 - (K:Int)))).length=n):=by rw [Hid];simpa using hlL
   clear hst hgr hown hown3 hinv3 hfr3 hinv hfr hmk hsg
   go_wp2
   exact ⟨⟨j+1,_,by omega,by go_num,HLL,HST,HM3,HI3,HF3⟩,by simp [intOf];omega⟩
  ·have hjn:j=n:=by omega
   subst hjn
   have hLm:=zar hlL hmk.out
   have hown' := hown.out
   rw [hLm] at hown'
   have hkc:mkC 1 (K:Int) = [.int .i64 (-1 - (K:Int))]:=rfl
   rw [← hkc] at hown'
   have hst:OwnS w X (Value.slice adL j capL).ownBlock va es B baseL 1 K j wr (.slice adL j capL) (.slice adA K capA) (es 1):=⟨by rw [HK.out,← HVA.out,znf,znf];exact hinv.out,hown',fun q hq=>⟨Nat.lt_of_lt_of_le (HSEP.out q hq).1 hfr.out.size,(HSEP.out q hq).2.1,by rw [HK.out,← HVA.out,znf];exact (HSEP.out q hq).2.2.1⟩,fun p hp q h1 h2=>absurd h1 ((HSEP.out q h2).2.2.2 1 (by decide) p hp),fun t ht _ p hp q hq=>(HSEP.out q hq).2.2.2 t ht p hp,hfr.out,fun q hq => .inr ⟨HXV.out q hq,hq.symm⟩,fun p hp => .inl hp,fun q hq => .inr (HXA.out q (by rw [HVA.out,← HK.out];exact hq)),Nat.le_trans hbase hfr.out.size,⟨by omega,by omega⟩,by omega,by decide⟩
   have hinvr:=hst.inv
   have cr:=hinvr.c 1 (by decide)
   have hlt:=hinvr.lt
   have hrowr:=hinvr.row 1 (by decide)
   rw [zne] at cr
   rw [zne,zne] at hrowr
   have HEL:Hid ((es 1).length=K):=HK.out.symm
   rw [HEL.out] at hrowr
   clear hown hown' hmk hinv hfr hLm HSEP HI HL hlL hkc
   have HST:Hid (OwnS w X (Value.slice adL j capL).ownBlock va es B baseL 1 K j wr (.slice adL j capL) (.slice adA K capA) (es 1)):=hst
   clear hst hinvr
   have hrow2:wr.ownsRow (B+1) 80 2 (.slice adA K capA) K (flatE (es 1)):=hrowr
   clear hrowr
   go_wp2_with (at_builtin;refine znH _ rfl _ _ 65 rfl (B+1) 80 i1 _ 2 32 Tryz.underlying65 hi1 hy0 hy1 hy2 rfl (by decide) _ K _ rfl (hrow2.alloc _) ⟨wr.heap.size,0,none⟩ 1 1 [.slice adL j capL,.int .i64 K] rfl rfl (zg2 wr _ _ _) (zio rfl _) (by decide) (by unfold maxLen;omega) (by omega) (by simp;omega) ?_;intro gA capA' wA hownA hcaseA;obtain ⟨ca,fa⟩:=HST.out.inv.after (f:=1) (by decide) _ (by rw [zne];exact hcaseA);rw [zne] at ca)
   have HS1:=HST.out.push HXB.out _ (by rw [HEL.out];exact hownA) hcaseA
   rw [HEL.out] at HS1
   clear HST cr hrow2 hownA hcaseA ca fa hlt
   go_loopw [1,6] (fun s1 s6 wr=>∃ (r:Nat) (vf:Value) (ef:List (Value × Int)),r≤3∧s6 = .int .i64 r∧ef.length=K+1+r∧Hid (OwnS w X (Value.slice adL j capL).ownBlock va es B baseL 1 K (j+r) wr s1 vf ef)) (fun _ s6 _=>3 - (intOf s6).toNat)
   case atStart=>exact ⟨0,_,_,by omega,rfl,by rw [List.length_append,HEL.out];rfl,HS1⟩
   case round =>
    clear HS1
    obtain ⟨r,vf,ef,hr,rfl,hes',hst⟩:=hrel
    have HES:Hid (ef.length=K+1+r):=hes'
    have hesle:ef.length≤16000004:=by omega
    clear hes'
    by_cases hr3:r<3
    ·obtain ⟨ad1,cap1,hv1⟩:=zh1 hst.out.own
     subst hv1
     obtain ⟨w3,rfl⟩:∃ w3:World,w3=wr:=⟨_,rfl⟩
     have hst3:=hst.out
     have hkc:mkC 1 (K:Int) = [.int .i64 (-1 - (K:Int))]:=rfl
     have hown3:w3.ownsRow baseL 3 1 (.slice ad1 (j+r) cap1) (j+r) (reps (j+r) [.int .i64 (-1 - (K:Int))]):=by rw [← hkc];exact hst3.own
     have HKC:Hid (mkC 1 (K:Int) = [.int .i64 (-1 - (K:Int))]):=hkc
     have hbase3:=hst3.base
     have HS3:Hid (OwnS w X (Value.slice adL j capL).ownBlock va es B baseL 1 K (j+r) w3 (.slice ad1 (j+r) cap1) vf ef):=hst3
     clear hst hst3 hkc
     go_wp2_with (first | (at_builtin;have _t:=hown3;refine znH _ rfl _ _ 78 rfl baseL 3 i0 _ 1 8 Tryz.underlying78 hi hz0 hz1 hz2 rfl (by decide) _ (j+r) _ rfl (hown3.alloc _) ⟨w3.heap.size,0,none⟩ 1 1 [.int .i64 (-1 - (K:Int))] rfl rfl (World.news_of_block (heap_alloc_new w3 _)) (by simp [Value.oneCell']) (by decide) (by unfold maxLen;omega) (by omega) (by simp;omega) ?_;intro gL capN wN hownN hcaseN;have HSN:Hid (OwnS w X (Value.slice adL j capL).ownBlock va es B baseL 1 K (j+r+1) wN (.slice (some ⟨gL,0,none⟩) (j+r+1) capN) vf ef):=HS3.out.append (by omega) _ (by rw [HKC.out];exact hownN) hcaseN;have cN:=HSN.out.inv.c 1 (by decide);have hltN:=HSN.out.inv.lt;have hrowN:=HSN.out.inv.row 1 (by decide);rw [zne] at cN;rw [zne,zne] at hrowN;obtain ⟨adF,capF,hvF⟩:=zh1 hrowN;subst hvF;have hrowM:wN.ownsRow (B+1) 80 2 (.slice adF ef.length capF) ef.length (flatE ef):=hrowN;clear hownN hcaseN hown3 HS3 hrowN) | (at_builtin;refine znH _ rfl _ _ 65 rfl (B+1) 80 i1 _ 2 32 Tryz.underlying65 hi1 hy0 hy1 hy2 rfl (by decide) _ ef.length _ rfl (hrowM.alloc _) ⟨wN.heap.size,0,none⟩ 1 1 [.slice (some ⟨gL,0,none⟩) (j+r+1) capN,.int .i64 K] rfl rfl (zg2 wN _ _ _) (zio rfl _) (by decide) (by unfold maxLen;omega) (by omega) (by simp;omega) ?_;intro gA capA' wA hownA hcaseA;obtain ⟨ca,fa⟩:=HSN.out.inv.after (f:=1) (by decide) _ (by rw [zne];exact hcaseA);rw [zne] at ca))
     have HS4:=HSN.out.push HXB.out _ hownA hcaseA
     clear HSN cN hrowM hownA hcaseA ca fa hltN
     exact ⟨⟨r+1,_,_,by omega,by go_num,by have:=HES.out;rw [List.length_append];show ef.length+1=_;omega,HS4⟩,by simp [intOf];omega⟩
    ·go_wp2
     go_end0
     exact ⟨rfl,vf,ef,hst.out.inv,by have:=HES.out;have:=HEL.out;omega,⟨hst.out.ent,hst.out.xa⟩,hst.out.fr⟩
theorem ze2:(Tryz.prog.info? 83).map (fun i=>(i.zero,i.size,i.bytes))=some (some (.agg #[.slice none 0 0,.int .i64 0]),2,32):=by kernel_rfl
theorem zcn (f:Nat):digs f 0 = []:=by
 cases f <;> simp [digs]
theorem zcm {f k:Nat}(h:0<k):digs (f+1) k=UInt8.ofNat (48+k % 10) :: digs f (k / 10):=by
 rw [digs,if_neg (by omega)]
theorem zcl (k:Nat):strOfNums [48+(k:Int) % 10]=bstr [UInt8.ofNat (48+k % 10)]:=by
 have e:(48+(k:Int) % 10).toNat=48+k % 10:=by omega
 simp only [strOfNums,bstr,List.map_cons,List.map_nil,e]
set_option maxRecDepth 100000 in
theorem zms (k:Nat)(w:World)(hk:k≤16777216) :
  Calls Tryz.prog 37 #[.int .i64 k] w fun e w' => e = .returned (.string (markT k))∧Below w.heap.size w w' := by
 have hcv:=zce
 go_enter Tryz.func37,Tryz.ntmps37
 go_wp2
 go_loopw [0,3] (fun s0 s2 wr=>∃ (f m:Nat) (done:List UInt8),s0 = .int .i64 m∧s2 = .string (bstr ([109,97,114,107,32] ++ done))∧Hid (done ++ digs f m=digs 20 k)∧Hid (m<10 ^ f)∧done.length+f≤20∧m≤16777216∧Below w.heap.size w wr) (fun s0 _ _=>(intOf s0).toNat)
 case atStart=>exact ⟨20,k,[],rfl,rfl,rfl,by rw [Hid];omega,by simp,hk,Below.refl _ _⟩
 case round =>
  obtain ⟨f,m,done,rfl,rfl,hd,hm,hlen,hmb,hb⟩:=hrel
  by_cases h0:0<m
  ·obtain ⟨f',rfl⟩:∃ f',f=f' + 1:=by
    cases f with
    | zero=>have:=hm.out;simp at this;omega
    | succ f' => exact ⟨f',rfl⟩
   have q1:((m:Int)≤0)=False:=by simp;omega
   have q2:((0:Int)<(m:Int))=True:=by simp;omega
   have HD:Hid ((done ++ [UInt8.ofNat (48+m % 10)]) ++ digs f' (m / 10)=digs 20 k):=by
    have:=hd.out
    rw [zcm h0] at this
    rw [Hid,List.append_assoc]
    exact this
   have HM:Hid (m / 10<10 ^ f'):=Nat.div_lt_of_lt_mul (by have:=hm.out;rw [Nat.pow_succ] at this;omega)
   have HS:Hid (bstr ([109,97,114,107,32] ++ done) ++ strOfNums [48+(m:Int) % 10]=bstr ([109,97,114,107,32] ++ (done ++ [UInt8.ofNat (48+m % 10)]))):=by rw [Hid,zcl,za1,List.append_assoc]
   have hsz1:(bstr ([109,97,114,107,32] ++ done)).size=5+done.length:=by rw [za8,List.length_append];rfl
   have hsz2:(strOfNums [48+(m:Int) % 10]).size=1:=by rw [strOfNums_size];rfl
   have hw1:IntKind.i64.wrap ((m:Int) / 10)=(m:Int) / 10:=znO (by omega) (by omega)
   generalize bstr ([109,97,114,107,32] ++ done)=sb at *
   go_wp2
   refine ⟨⟨f',m / 10,done ++ [UInt8.ofNat (48+m % 10)],by go_num,?_,HD,HM,by rw [List.length_append,List.length_singleton];omega,by omega,?_⟩,?_⟩
   ·rw [HS.out]
   ·exact zaO hb _
   ·simp only [intOf]
    omega
  ·obtain rfl:m=0:=by omega
   have HE:Hid (markT k=bstr ([109,97,114,107,32] ++ done)):=by
    have:=hd.out
    rw [zcn,List.append_nil] at this
    rw [Hid,markT,this]
   generalize bstr ([109,97,114,107,32] ++ done)=sb at *
   go_wp2
   go_ret
   exact ⟨by rw [HE.out];rfl,hb⟩
end Go.Proofs.YtahdlejgjcjeoabGreatDoor
