/- slices.SortFunc at the program's atoms: the numbers of the shelf's contract laid at this dump. -/
import Derived.Test.YtahdlejgjcjeoabGreatDoorA02
import Derived.Test.YtahdlejgjcjeoabGreatDoorA10
import Derived.Test.YtahdlejgjcjeoabGreatDoorA09
import Derived.Shelf.SlSortCmp.WholeK
import Derived.Test.YtahdlejgjcjeoabGreatDoorProg
namespace Go.Proofs.YtahdlejgjcjeoabGreatDoor
set_option maxHeartbeats 8000000
open Go.RowKit
theorem zlT (a:At)(w:World)(h:RulesAt w)(h1:1≤a.ty)(h5:a.ty≤5) :
  Calls Tryz.prog 160 #[a.val] w fun e w' => e = .returned (.tuple #[(slot a).val,(grade a).val])∧Below w.heap.size w w' := by
 obtain ⟨ty,key,side,who,elem,n⟩:=a
 simp only at h1 h5
 have HT:Hid (RulesAt w):=h
 clear h
 unfold At.val
 simp only
 by_cases ht:ty=5
 ·subst ht
  go_enter Tryz.func160,Tryz.ntmps160
  go_wp2_with fail
  refine (zfw 5 _ ?hrl (by omega) (by omega)).mono ?_
  case hrl=>exact HT.out.below (B:=w.heap.size) (by repeat (first | exact Below.refl _ _ | refine zaO ?_ _)) HT.out.1
  rintro e w1 ⟨rfl,rfl⟩
  go_wp2
  go_region
  all_goals go_wp2
  refine bodyPost_ret (v := .tuple #[Sl.val ⟨5,key,0,0,ByteArray.empty⟩,Gr.val ⟨n,who,elem⟩]) (by simp [results,Tryz.results160,go_sem,Sl.val,Gr.val];rfl) rfl ⟨by simp [slot,grade],?_⟩
  go_light
  repeat (first | exact Below.refl _ _ | refine below_drewN ?_ _ | refine Below.drew ?_ | refine Below.setCell ?_ (by simp) _ | refine zaO ?_ _)
 ·have hk:(ty == 5)=false:=by simp [ht]
  go_enter Tryz.func160,Tryz.ntmps160
  go_wp2_with fail
  refine (zfw ty _ ?hrl (by omega) (by omega)).mono ?_
  case hrl=>exact HT.out.below (B:=w.heap.size) (by repeat (first | exact Below.refl _ _ | refine zaO ?_ _)) HT.out.1
  rintro e w1 ⟨rfl,rfl⟩
  go_wp2
  go_region
  all_goals go_wp2
  refine bodyPost_ret (v := .tuple #[Sl.val ⟨ty,key,side,who,elem⟩,Gr.val ⟨n,0,ByteArray.empty⟩]) (by simp [results,Tryz.results160,go_sem,Sl.val,Gr.val];rfl) rfl ⟨by simp [slot,grade,ht],?_⟩
  go_light
  repeat (first | exact Below.refl _ _ | refine below_drewN ?_ _ | refine Below.drew ?_ | refine Below.setCell ?_ (by simp) _ | refine zaO ?_ _)
theorem zbw {w w' : World}{row:Option Nat}(hg:w.grownBy w' row){b o:Nat}{a:At}(hne:some b ≠ row)(h:cellsAt w b o a):cellsAt w' b o a:=by
 obtain ⟨c0,c1,c2,c3,c4,c5⟩:=h
 exact ⟨hg.cell c0 hne,hg.cell c1 hne,hg.cell c2 hne,hg.cell c3 hne,hg.cell c4 hne,hg.cell c5 hne⟩
theorem RowAt.grown {w w' : World}{row:Option Nat}(hg:w.grownBy w' row){b off:Nat}{l:List At}(hne:some b ≠ row)(h:RowAt w b off l):RowAt w' b off l :=
 fun k hk=>zbw hg hne (h k hk)
theorem ruleAt.grown {w w' : World}{row:Option Nat}(hg:w.grownBy w' row)(hne:some 1 ≠ row){o:Nat}{a b c d e:Int}{r:Bool}(h:ruleAt w o a b c d e r):ruleAt w' o a b c d e r:=by
 obtain ⟨c0,c1,c2,c3,c4,c5⟩:=h
 exact ⟨hg.cell c0 hne,hg.cell c1 hne,hg.cell c2 hne,hg.cell c3 hne,hg.cell c4 hne,hg.cell c5 hne⟩
theorem RulesAt.grown {w w' : World}{row:Option Nat}(h:RulesAt w)(hg:w.grownBy w' row)(hne:some 1 ≠ row):RulesAt w' := by
 obtain ⟨h1,r1,r2,r3,r4,r5⟩:=h
 exact ⟨Nat.lt_of_lt_of_le h1 hg.size,r1.grown hg hne,r2.grown hg hne,r3.grown hg hne,r4.grown hg hne,r5.grown hg hne⟩
theorem zlU (a:At)(w:World)(h:RulesAt w)(h1:1≤a.ty)(h5:a.ty≤5) :
  Calls Tryz.prog 160 #[a.val] w fun e w' => e = .returned (.tuple #[.agg #[.int .i64 (slot a).ty,.string (slot a).key,.int .i64 (slot a).side,.int .i64 (slot a).who,.string (slot a).elem],.agg #[.int .i64 (grade a).n,.int .i64 (grade a).who,.string (grade a).elem]])∧Below w.heap.size w w' := zlT a w h h1 h5
theorem zek (g h:Gr)(w:World) :
  Calls Tryz.prog 161 #[.agg #[.int .i64 g.n,.int .i64 g.who,.string g.elem],.agg #[.int .i64 h.n,.int .i64 h.who,.string h.elem]] w fun e w' => e = .returned (.agg #[.int .i64 (mxG g h).n,.int .i64 (mxG g h).who,.string (mxG g h).elem])∧Below w.heap.size w w' := zej g h w
section
variable (w:World) {ops:Array Oper} {rest:List Oper} {o:Oper} {a:Act} {Q:Exit→Act→World→Prop}
theorem znL (hg:o.guard=none)(m x:Operand)(t:TypeId)(hop:o.op=Op.lookup t m x true)(ht:Tryz.prog.underlying t=some (.map 211 213))(b n:Nat)(M:Sl→Option Gr)
  (hm:a.eval m = .map (some b)) (hown:StMap w b n M) (s:Sl) (hs:s.ok) (hx:a.eval x=s.val) (g:Gr) (c:Bool) (hgot:got M s=g) (hc:(M s).isSome=c)
  (hK:wpList Tryz.prog ops Q rest (a.put o.dst (.tuple #[.agg #[.int .i64 g.n,.int .i64 g.who,.string g.elem],.bool c])) w) :
  wpList Tryz.prog ops Q (o :: rest) a w:=by
 subst hgot hc
 exact znK w hg m x t hop ht b n M hm hown s hs hx hK
end
theorem StMap.setCell {w:World}{b n:Nat}{M:Sl→Option Gr}(h:StMap w b n M){a:Addr}(ha:b ≠ a.block)(u:Value):StMap (w.setCell a u) b n M:=by
 obtain ⟨D,h1,h2⟩:=h
 exact ⟨D,h1.setCell ha u,h2⟩
theorem zm3 {a:At}(h:mayB a=true):1≤a.ty∧a.ty≤5:=by
 simp only [mayB,decide_eq_true_eq] at h
 omega
set_option maxRecDepth 100000 in
theorem zan (v:Value)(l:List At)(b n:Nat)(M:Sl→Option Gr)(w:World)(hr:RulesAt w)(hm:StMap w b n M)(hv:SliceOf w v l)(hmay:∀ a∈l,mayB a=true)(hlen:n+l.length≤1099511627776) :
  Calls Tryz.prog 110 #[.map (some b),v] w fun e w' => e = .returned (.tuple #[])∧StMap w' b (n+l.length) (addTo M l)∧w.grownBy w' (some b):=by
 obtain ⟨ad,cap,rfl,hcap,H⟩:=hv
 have HR:Hid (0<l.length→∃ b off,ad=some ⟨b,off,none⟩∧b<w.heap.size∧RowAt w b off l):=H
 clear H
 have HS:Hid (∀ a∈l,mayB a=true):=hmay
 clear hmay
 have h0b:(some 1:Option Nat) ≠ some b:=fun e=>hm.ne_cell hr.2.1.1 (by simpa using e)
 have HT:Hid (RulesAt w):=hr
 clear hr
 have HB0:Hid ((some 1:Option Nat) ≠ some b):=h0b
 clear h0b
 have HMW:Hid (StMap w b n M):=hm
 clear hm
 go_enter Tryz.func110,Tryz.ntmps110
 go_wp2
 go_loopw [12] (fun i wr=>∃ k:Nat,k≤l.length∧i = .int .i64 k∧Hid (StMap wr b (n+k) (addTo M (l.take k)))∧w.grownBy wr (some b)) (fun i _=>l.length - (intOf i).toNat)
 case atStart=>exact ⟨0,Nat.zero_le _,rfl,by simpa [Hid,addTo] using HMW.out,zaP (Below.refl _ _) _⟩
 case round =>
  obtain ⟨k,hk,rfl,hst,hgw⟩:=hrel
  by_cases hl:k<l.length
  ·obtain ⟨bs,off,rfl,hb,hrow⟩:=HR.out (by omega)
   have hbs:(some bs:Option Nat) ≠ some b:=fun e=>HMW.out.ne_cell (hrow k hl).1 (by simpa using e)
   obtain ⟨c0,c1,c2,c3,c4,c5⟩:=(hrow.grown hgw hbs) k hl
   have hmk:=HS.out (l[k]) (List.getElem_mem hl)
   have HTr:Hid (RulesAt wr):=HT.out.grown hgw HB0.out
   have hsucc:=zam M l k hl
   clear hrow HR
   generalize hak:l[k]=a at *
   clear hak
   have hty:=zm3 hmk
   have hok:=zlI (zdj hmk)
   have HSU:Hid (addTo M (l.take (k+1))=addA (addTo M (l.take k)) a):=hsucc
   clear hsucc hmk
   generalize addTo M (l.take k)=N at *
   have HN:Hid (addA N a=upd N (slot a) (match N (slot a) with | none=>grade a | some g=>if gcmp g (grade a)<0 then grade a else g)):=rfl
   go_wp2_with fail
   refine (zlU a _ ?hrl hty.1 hty.2).mono ?_
   case hrl=>exact HTr.out.below ((Below.refl _ wr).alloc (Nat.le_refl _) _) HTr.out.1
   rintro e w1 ⟨rfl,hb1⟩
   have hbw1:Below wr.heap.size wr w1:=(zaO (Below.refl _ wr) _).trans (hb1.mono (by simp))
   have hst1:=hst.out.below hbw1
   have hsz1:wr.heap.size<w1.heap.size:=by have:=hb1.size;simp at this;omega
   clear hb1 hst c0 c1 c2 c3 c4 c5 hty
   generalize slot a=s at *
   generalize grade a=g at *
   cases hN:N s with
   | none =>
    have HU:Hid (addA N a=upd N s g):=by rw [Hid,HN.out,hN]
    have hgot:got N s=⟨0,0,ByteArray.empty⟩:=by unfold got;rw [hN];rfl
    have hsome:(N s).isSome=false:=by rw [hN];rfl
    clear hN HN
    go_wp2_with (first | (at_lookup;refine znL _ rfl _ _ 122 rfl Tryz.underlying122 b (n+k) N rfl ((hst1.kept (World.grownBy_alloc _ _ none) (by simp)).kept (World.grownBy_alloc _ _ none) (by simp)) s hok rfl ⟨0,0,ByteArray.empty⟩ false hgot hsome ?_) | (at_mapUpdate;refine znM _ rfl _ _ _ 122 rfl Tryz.underlying122 b (n+k) N rfl (((hst1.kept (World.grownBy_alloc _ _ none) (by simp)).kept (World.grownBy_alloc _ _ none) (by simp)).kept (World.grownBy_alloc _ _ none) (by simp)) (by unfold maxLen;omega) s g hok rfl rfl ?_;intro w2 hst2 hg2))
    go_roundw
    case rel=>exact ⟨k+1,by omega,by go_num,by rw [Hid,HSU.out,HU.out];exact hst2,zev hgw (zev (zaP (zaO (zaO (zaO hbw1 _) _) _) _) hg2)⟩
    case measure=>simp [intOf];omega
   | some g0 =>
    have HU:Hid (addA N a=upd N s (mxG g0 g)):=by rw [Hid,HN.out,hN];rfl
    have hgot:got N s=g0:=by unfold got;rw [hN];rfl
    have hsome:(N s).isSome=true:=by rw [hN];rfl
    clear hN HN
    go_wp2_with (at_lookup;refine znL _ rfl _ _ 122 rfl Tryz.underlying122 b (n+k) N rfl ((hst1.kept (World.grownBy_alloc _ _ none) (by simp)).kept (World.grownBy_alloc _ _ none) (by simp)) s hok rfl g0 true hgot hsome ?_)
    refine (zek g0 g _).mono ?_
    rintro e w3 ⟨rfl,hb3⟩
    have hbw3:Below wr.heap.size wr w3:=(zaO (zaO (zaO hbw1 _) _) _).trans (hb3.mono (by simp;omega))
    have hst3:=(((hst1.kept (World.grownBy_alloc _ _ none) (by simp)).kept (World.grownBy_alloc _ _ none) (by simp)).kept (World.grownBy_alloc _ _ none) (by simp)).below hb3
    obtain ⟨hc3,hf3⟩:=zaG hb3
    have hz3:w1.heap.size+1+1<w3.heap.size:=by have:=hb3.size;simp at this;omega
    have hlt1:=hst1.lt
    clear hb3 hst1
    generalize mxG g0 g=gm at *
    go_wp2_with (at_mapUpdate;refine znM _ rfl _ _ _ 122 rfl Tryz.underlying122 b (n+k) N rfl (((hst3.setCell (by dsimp only;omega) _).setCell (by dsimp only;omega) _).setCell (by dsimp only;omega) _) (by unfold maxLen;omega) s gm hok rfl rfl ?_;intro w2 hst2 hg2)
    go_roundw
    case rel=>exact ⟨k+1,by omega,by go_num,by rw [Hid,HSU.out,HU.out];exact hst2,zev hgw (zev (zaP (Below.setCell (Below.setCell (Below.setCell hbw3 (by dsimp only;omega) _) (by dsimp only;omega) _) (by dsimp only;omega) _) _) hg2)⟩
    case measure=>simp [intOf];omega
  ·have hkl:k=l.length:=by omega
   subst hkl
   have hst' := hst.out
   rw [List.take_of_length_le (Nat.le_refl _)] at hst'
   have HST:Hid (StMap wr b (n+l.length) (addTo M l)):=hst'
   clear hst'
   go_wp2
   go_end0
   exact ⟨rfl,HST,hgw⟩
structure Tab (w:World)(col:Col):Prop where
 rules:RulesAt w
 steps:StepsAt w
 c0:col 1=(0,0)
 c1:col 0=(0,0)
theorem RulesAt.block {w w' : World}(h:RulesAt w)(hb:w'.heap[1]? = w.heap[1]?)(hs:w.heap.size≤w'.heap.size):RulesAt w' := by
 obtain ⟨h1,r1,r2,r3,r4,r5⟩:=h
 have:∀ {o:Nat} {a b c d e:Int} {r:Bool},ruleAt w o a b c d e r→ruleAt w' o a b c d e r:=by
  intro o a b c d e r h
  obtain ⟨c0,c1,c2,c3,c4,c5⟩:=h
  refine ⟨?_,?_,?_,?_,?_,?_⟩ <;> (rw [World.cell?_of_block (w:=w) hb];assumption)
 exact ⟨Nat.lt_of_lt_of_le h1 hs,this r1,this r2,this r3,this r4,this r5⟩
theorem Tab.kept {w w' : World}{col col' : Col}{S:Nat × Nat→Prop}(h:Tab w col)(hf:FrC S col col' w w')(hS:¬ S (0,0)):Tab w' col' where
 rules:=h.rules.block (hf.fr.block 1 h.rules.1 (by rw [h.c0];exact hS)) hf.size
 steps:=h.steps.block (hf.fr.block 0 h.steps.1 (by rw [h.c1];exact hS)) hf.size
 c0:=(hf.col 1 h.rules.1).trans h.c0
 c1:=(hf.col 0 h.steps.1).trans h.c1
theorem Tab.below {w w' : World}{col:Col}(h:Tab w col)(hb:Below w.heap.size w w'):Tab w' col:=h.kept (S:=fun _=>False) (zdJ hb) id
theorem zhk {o i:Nat}(ho:o ≠ 0):¬ ofPrg o i (0,0):=by
 rintro (h | h)
 ·exact ho (congrArg Prod.fst h).symm
 ·exact ho h.1.symm
theorem zhj {o i:Nat}(_hi:i<6):¬ ofPrg o i (o,1):=by
 rintro (h | h)
 ·have:=congrArg Prod.snd h;simp at this
 ·have:=h.2.1;simp at this
structure PrI (w:World)(col:Col)(o x i:Nat)(K:PrK)(D:PrD):Prop where
 b:PrB w col o x (some i) (K.setD i D)
 p:PrRep w col o i D
 h6:K.Ds.length≤6
 hi:i<K.Ds.length
theorem PrI.cells {w:World}{col:Col}{o x i:Nat}{K:PrK}{D:PrD}(h:PrI w col o x i K D):Cells14 w K.R i D:=by
 have hi' : i<(K.setD i D).Ds.length:=by rw [K.setD_len];exact h.hi
 have:=h.b.cells hi'
 rw [K.setD_at] at this
 exact this
theorem PrI.below {w w' : World}{col:Col}{o x i:Nat}{K:PrK}{D:PrD}(h:PrI w col o x i K D)(hb:Below w.heap.size w w')(κ:Nat × Nat):PrI w' (paint col w.heap.size κ) o x i K D :=
 ⟨h.b.below hb κ,h.p.kept (S:=fun _=>False) (zdH hb κ) id id id id,h.h6,h.hi⟩
theorem PrI.same {w w' : World}{col:Col}{o x i:Nat}{K:PrK}{D:PrD}(h:PrI w col o x i K D)(hb:Below w.heap.size w w'):PrI w' col o x i K D :=
 ⟨h.b.same hb,h.p.kept (S:=fun _=>False) (zdJ hb) id id id id,h.h6,h.hi⟩
theorem PrI.close {w:World}{col:Col}{o x i:Nat}{K:PrK}{D:PrD}(h:PrI w col o x i K D):PrAt w col o x (K.setD i D):=h.b.close fun _=>by rw [K.setD_at];exact h.p
theorem PrAt.inside {w:World}{col:Col}{o x i:Nat}{K:PrK}(h:PrAt w col o x K)(h6:K.Ds.length≤6)(hi:i<K.Ds.length):PrI w col o x i K K.Ds[i]:=by
 obtain ⟨h1,h2⟩:=PrB.open h hi
 exact ⟨h1.self hi,h2,h6,hi⟩
theorem ne2 {o j:Nat}(h:j ≠ 2):¬ ((o,j)=(o,2)):=fun e=>h (congrArg Prod.snd e)
theorem neκ {o j k:Nat}(h:j ≠ k):¬ ((o,j)=(o,k)):=fun e=>h (congrArg Prod.snd e)
theorem zkB {o i k:Nat}(hi:i<6)(hk:k=1∨k=2∨k=5):∀ κ:Nat × Nat,κ=(o,k*10+i)→ofRep o i κ:=fun κ e=>by
 rw [e]
 exact ⟨rfl,by show 10≤k*10+i;omega,by show (k*10+i) % 10=i;omega⟩
theorem PrI.put {w:World}{col:Col}{o x i k:Nat}{K:PrK}{D:PrD}{u:Value}(h:PrI w col o x i K D)(hk:k<14)(D' : PrD)(hD:D.cells.set k u=D'.cells)(e1:D'.b=D.b)(e2:D'.n=D.n)(e3:D'.M=D.M)(e4:D'.vb=D.vb)(e5:D'.es=D.es)(e6:D'.vl=D.vl)(e7:D'.bytes=D.bytes) :
  PrI (w.setCell ⟨K.R,i*14+k,none⟩ u) col o x i K D' ∧ FrC (ofPrg o i) col col w (w.setCell ⟨K.R,i*14+k,none⟩ u):=by
 obtain ⟨h1,hf⟩:=h.b.put2 h.hi hk D' hD
 have h2:=h.p.kept hf (ne2 (by omega)) (ne2 (by omega)) (ne2 (by omega)) (ne2 (by omega))
 refine ⟨⟨h1,⟨by rw [e1,e2,e3];exact h2.st,by rw [e1];exact h2.cb,by rw [e4,e5];exact h2.buf,by rw [e5];exact h2.ed,by rw [e6,e7];exact h2.log⟩,h.h6,h.hi⟩,hf.mono fun _ e => .inl e⟩
theorem PrI.newLog {w w2:World}{col col2:Col}{o x i:Nat}{K:PrK}{D:PrD}{vl:Value}{bs:List UInt8}(h:PrI w col o x i K D)(hf:FrC (fun κ=>κ=(o,50+i)) col col2 w w2)(hrow:RowC w2 col2 (o,50+i) 5 1 vl bs.length (bcells bs)) :
  PrI (w2.setCell ⟨K.R,i*14+11,none⟩ vl) col2 o x i K { D with vl:=vl,bytes:=bs }∧FrC (ofPrg o i) col col2 w (w2.setCell ⟨K.R,i*14+11,none⟩ vl):=by
 have hi6:i<6:=Nat.lt_of_lt_of_le h.hi h.h6
 have h1:=h.b.rest (by rw [K.setD_len];exact h.h6) (by rw [K.setD_len];exact h.hi) (hf.mono (zkB hi6 (k:=5) (by omega)))
 have h2:PrRep w2 col2 o i { D with vl:=vl,bytes:=bs } :=
  ⟨h.p.st.block (hf.fr.block _ h.p.st.lt (by rw [h.p.cb];exact neκ (by omega))),(hf.col _ h.p.st.lt).trans h.p.cb,h.p.buf.kept hf (neκ (by omega)),fun e he=>(h.p.ed e he).kept hf (neκ (by omega)),hrow⟩
 obtain ⟨h3,hf3⟩:=h1.put2 h.hi (k:=11) (u:=vl) (by omega) { D with vl:=vl,bytes:=bs } rfl
 exact ⟨⟨h3,h2.kept hf3 (ne2 (by omega)) (ne2 (by omega)) (ne2 (by omega)) (ne2 (by omega)),h.h6,h.hi⟩,(hf.mono fun κ e => .inr (zkB hi6 (k:=5) (by omega) κ e)).trans (hf3.mono fun _ e => .inl e)⟩
theorem PrI.newBuf {w w2:World}{col col2:Col}{o x i:Nat}{K:PrK}{D:PrD}{vb:Value}{es:List Pe}(h:PrI w col o x i K D)(hf:FrC (fun κ=>κ=(o,20+i)) col col2 w w2)(hrow:RowC w2 col2 (o,20+i) 85 3 vb es.length (es.flatMap Pe.cells))(hed:∀ e∈es,Held w2 col2 (o,1) e.v e.d) :
  PrI (w2.setCell ⟨K.R,i*14+4,none⟩ vb) col2 o x i K { D with vb:=vb,es:=es }∧FrC (ofPrg o i) col col2 w (w2.setCell ⟨K.R,i*14+4,none⟩ vb):=by
 have hi6:i<6:=Nat.lt_of_lt_of_le h.hi h.h6
 have h1:=h.b.rest (by rw [K.setD_len];exact h.h6) (by rw [K.setD_len];exact h.hi) (hf.mono (zkB hi6 (k:=2) (by omega)))
 have h2:PrRep w2 col2 o i { D with vb:=vb,es:=es } :=
  ⟨h.p.st.block (hf.fr.block _ h.p.st.lt (by rw [h.p.cb];exact neκ (by omega))),(hf.col _ h.p.st.lt).trans h.p.cb,hrow,hed,h.p.log.kept hf (neκ (by omega))⟩
 obtain ⟨h3,hf3⟩:=h1.put2 h.hi (k:=4) (u:=vb) (by omega) { D with vb:=vb,es:=es } rfl
 exact ⟨⟨h3,h2.kept hf3 (ne2 (by omega)) (ne2 (by omega)) (ne2 (by omega)) (ne2 (by omega)),h.h6,h.hi⟩,(hf.mono fun κ e => .inr (zkB hi6 (k:=2) (by omega) κ e)).trans (hf3.mono fun _ e => .inl e)⟩
theorem PrI.newSt {w w2:World}{col:Col}{o x i n:Nat}{K:PrK}{D:PrD}{M:Sl→Option Gr}(h:PrI w col o x i K D)(hg:w.grownBy w2 (some D.b))(hst:StMap w2 D.b n M) :
  PrI w2 (paint col w.heap.size (o,10+i)) o x i K { D with n:=n,M:=M }∧FrC (ofPrg o i) col (paint col w.heap.size (o,10+i)) w w2:=by
 have hi6:i<6:=Nat.lt_of_lt_of_le h.hi h.h6
 have hf:FrC (fun κ=>κ=(o,10+i)) col (paint col w.heap.size (o,10+i)) w w2:=⟨(Fr.refl _ w).step hg (fun q hq=>by cases hq;exact .inr h.p.cb),fun q hq=>zin col _ hq⟩
 have h1:=(h.b.rest (by rw [K.setD_len];exact h.h6) (by rw [K.setD_len];exact h.hi) (hf.mono (zkB hi6 (k:=1) (by omega)))).as { D with n:=n,M:=M } (fun hi=>by rw [K.setD_at];rfl)
 rw [K.setD_setD] at h1
 exact ⟨⟨h1,⟨hst,(hf.col _ h.p.st.lt).trans h.p.cb,h.p.buf.kept hf (neκ (by omega)),fun e he=>(h.p.ed e he).kept hf (neκ (by omega)),h.p.log.kept hf (neκ (by omega))⟩,h.h6,h.hi⟩,hf.mono fun κ e => .inr (zkB hi6 (k:=1) (by omega) κ e)⟩
theorem PrI.apart {w:World}{col:Col}{o x i:Nat}{K:PrK}{D:PrD}(h:PrI w col o x i K D):D.b ≠ K.R∧(∀ q,D.vb.ownBlock=some q→q ≠ K.R)∧(∀ q,D.vl.ownBlock=some q→q ≠ K.R):=by
 have hR:col K.R=(o,2):=h.b.cR
 refine ⟨fun e => ?_,fun q hq e => ?_,fun q hq e => ?_⟩
 ·have:=h.p.cb;rw [e,hR] at this;exact neκ (by omega) this
 ·have:=h.p.buf.col q hq;rw [e,hR] at this;exact neκ (by omega) this
 ·have:=h.p.log.col q hq;rw [e,hR] at this;exact neκ (by omega) this
theorem PrI.ltR {w:World}{col:Col}{o x i:Nat}{K:PrK}{D:PrD}(h:PrI w col o x i K D):K.R<w.heap.size:=(Array.getElem?_eq_some_iff.1 (show w.heap[K.R]? = _ from h.b.row)).1
open Go.RowKit Go.ChangeShapes Go.WideShapes
theorem zbC:Tryz.prog.cellsOf 31=5:=by kernel_rfl
theorem zbs:Tryz.prog.cellsOf 33=10:=by kernel_rfl
def opD {H:Type}(o:OpV):DataW H := .agg [.lit (.int .i64 o.ty),.lit (.string o.key.data.toList),.lit (.int .i64 o.side),.lit (.string o.elem.data.toList),.lit (.int .i64 o.n)]
def actD {H:Type}(a:ActV):DataW H := .agg [.lit (.int .i64 a.k),.lit (.int .i64 a.r),.lit (.int .i64 a.q),.lit (.int .i64 a.n),opD a.op,.lit (.string a.key.data.toList)]
set_option maxRecDepth 100000 in
theorem zhE {H:Type}{en:TypeId × Value→H}{w:World}{base:Nat}{sp:Nat→Bool}{held:Bool}{fuel:Nat}{cs:List Value}{x:DataW H × List MemPlace}
  (h:DataW.trod en Tryz.prog w base sp held fuel 31 cs=some x):∃ o:OpV,cs = [.int .i64 o.ty,.string o.key,.int .i64 o.side,.string o.elem,.int .i64 o.n]∧x=(opD o,[])∧i64r o.ty∧i64r o.side∧i64r o.n:=by
 obtain ⟨xs,n,-,rfl,hl,hxl,hf⟩:=DataW.trod_struct Tryz.underlying31 h
 rw [zbC] at hl
 have h0:=hf 0 _ rfl
 have h1:=hf 1 _ rfl
 have h2:=hf 2 _ rfl
 have h3:=hf 3 _ rfl
 have h4:=hf 4 _ rfl
 match cs,hl,xs,hxl with
 | [v0,v1,v2,v3,v4],_,[x0,x1,x2,x3,x4],_ =>
  have g0:DataW.trod en Tryz.prog w base sp held n 3 [v0]=some x0:=by simpa [zbA] using h0
  have g1:DataW.trod en Tryz.prog w base sp held n 9 [v1]=some x1:=by simpa [zbE] using h1
  have g2:DataW.trod en Tryz.prog w base sp held n 3 [v2]=some x2:=by simpa [zbA] using h2
  have g3:DataW.trod en Tryz.prog w base sp held n 9 [v3]=some x3:=by simpa [zbE] using h3
  have g4:DataW.trod en Tryz.prog w base sp held n 3 [v4]=some x4:=by simpa [zbA] using h4
  obtain ⟨n0,e0,rfl,r0⟩:=DataW.trod_int Tryz.underlying3 g0
  obtain ⟨n1,e1,rfl,-⟩:=DataW.trod_string Tryz.underlying9 g1
  obtain ⟨n2,e2,rfl,r2⟩:=DataW.trod_int Tryz.underlying3 g2
  obtain ⟨n3,e3,rfl,-⟩:=DataW.trod_string Tryz.underlying9 g3
  obtain ⟨n4,e4,rfl,r4⟩:=DataW.trod_int Tryz.underlying3 g4
  simp only [List.cons.injEq,and_true] at e0 e1 e2 e3 e4
  subst e0 e1 e2 e3 e4
  exact ⟨⟨n0,n1,n2,n3,n4⟩,rfl,rfl,znq r0,znq r2,znq r4⟩
set_option maxRecDepth 100000 in
theorem zhA {H:Type}{en:TypeId × Value→H}{w:World}{base:Nat}{sp:Nat→Bool}{held:Bool}{fuel:Nat}{cs:List Value}{x:DataW H × List MemPlace}
  (h:DataW.trod en Tryz.prog w base sp held fuel 33 cs=some x):∃ a:ActV,cs=a.cells∧x=(actD a,[])∧a.rng:=by
 obtain ⟨xs,n,-,rfl,hl,hxl,hf⟩:=DataW.trod_struct Tryz.underlying33 h
 rw [zbs] at hl
 have h0:=hf 0 _ rfl
 have h1:=hf 1 _ rfl
 have h2:=hf 2 _ rfl
 have h3:=hf 3 _ rfl
 have h4:=hf 4 _ rfl
 have h5:=hf 5 _ rfl
 match cs,hl,xs,hxl with
 | [v0,v1,v2,v3,v4,v5,v6,v7,v8,v9],_,[x0,x1,x2,x3,x4,x5],_ =>
  have g0:DataW.trod en Tryz.prog w base sp held n 3 [v0]=some x0:=by simpa [zbA] using h0
  have g1:DataW.trod en Tryz.prog w base sp held n 3 [v1]=some x1:=by simpa [zbA] using h1
  have g2:DataW.trod en Tryz.prog w base sp held n 3 [v2]=some x2:=by simpa [zbA] using h2
  have g3:DataW.trod en Tryz.prog w base sp held n 3 [v3]=some x3:=by simpa [zbA] using h3
  have g4:DataW.trod en Tryz.prog w base sp held n 31 [v4,v5,v6,v7,v8]=some x4:=by simpa [zbC] using h4
  have g5:DataW.trod en Tryz.prog w base sp held n 9 [v9]=some x5:=by simpa [zbE] using h5
  obtain ⟨n0,e0,rfl,-⟩:=DataW.trod_int Tryz.underlying3 g0
  obtain ⟨n1,e1,rfl,r1⟩:=DataW.trod_int Tryz.underlying3 g1
  obtain ⟨n2,e2,rfl,r2⟩:=DataW.trod_int Tryz.underlying3 g2
  obtain ⟨n3,e3,rfl,r3⟩:=DataW.trod_int Tryz.underlying3 g3
  obtain ⟨o,e4,rfl,o1,o2,o3⟩:=zhE g4
  obtain ⟨n5,e5,rfl,-⟩:=DataW.trod_string Tryz.underlying9 g5
  simp only [List.cons.injEq,and_true] at e0 e1 e2 e3 e4 e5
  obtain ⟨rfl,rfl,rfl,rfl,rfl⟩:=e4
  subst e0 e1 e2 e3 e5
  exact ⟨⟨n0,n1,n2,n3,o,n5⟩,rfl,rfl,znq r3,znq r1,znq r2,o1,o2,o3⟩
theorem zbb {H:Type}(a:ActV):12≤Rows.uptoBulk (actD (H:=H) a)∧a.op.key.size+a.op.elem.size+a.key.size≤Rows.uptoBulk (actD (H:=H) a):=by
 simp only [actD,opD,Rows.uptoBulk,Rows.uptoBulkAll]
 have h1:a.op.key.data.toList.length=a.op.key.size:=by simp
 have h2:a.op.elem.data.toList.length=a.op.elem.size:=by simp
 have h3:a.key.data.toList.length=a.key.size:=by simp
 omega
theorem zbc {H:Type}:∀ l:List (DataW H),(∀ d∈l,∃ p,d=actD p)→12*l.length≤Rows.uptoBulkAll l
 | [],_=>Nat.zero_le _
 | x :: r,h=>by
  obtain ⟨a,rfl⟩:=h x (by simp)
  have:=zbc r (fun d hd=>h d (by simp [hd]))
  simp only [Rows.uptoBulkAll,List.length_cons]
  have:=(zbb (H:=H) a).1
  omega
set_option maxRecDepth 100000 in
theorem zhG {H:Type}{en:TypeId × Value→H}{w:World}{r:Reach}{b0:Nat}{v:Value}{d:DataW H}{ps:List MemPlace}
  (hval:Value.okWide Tryz.prog w r b0 25 v) (hd:DataW.Trod en Tryz.prog w 0 (fun _=>true) true 25 v d ps) (hk:Rows.uptoBulk d≤1048576) :
  ∃ l,ActsOf w v l∧l.length≤87381∧∀ a∈l,a.fit:=by
 obtain ⟨ad,len,cap,rfl⟩:=okWide_slice Tryz.underlying25 hval
 obtain ⟨fuel,hf⟩:=hd
 rcases DataW.trod_slice Tryz.underlying25 hf with ⟨hc,-⟩ | ⟨a,len',cap',elems,rest,n,-,hc,hx,-,hl,-,hlen,hel,-,-⟩
 ·simp [Value.cells] at hc
  obtain ⟨rfl,rfl,rfl⟩:=hc
  exact ⟨[],⟨none,0,rfl,Nat.le_refl _,fun h=>by simp at h⟩,by simp,by simp⟩
 ·simp [Value.cells] at hc
  obtain ⟨rfl,rfl,rfl⟩:=hc
  simp only [Prod.mk.injEq] at hx
  obtain ⟨rfl,-⟩:=hx
  have each:∀ i,i<len→∃ p:ActV,w.cells? 0 (a.add (i*10)) 10=some p.cells∧elems[i]? = some (actD p,[])∧p.rng:=by
   intro i hi
   have h1:=hel i hi
   rw [zbs] at h1
   rw [List.getElem?_eq_getElem (by omega),Option.bind_eq_some_iff] at h1
   obtain ⟨cs,hcs,ht⟩:=h1
   obtain ⟨p,rfl,hx,hn⟩:=zhA ht
   exact ⟨p,hcs,by rw [List.getElem?_eq_getElem (by omega),hx],hn⟩
  obtain ⟨l,hll,hq⟩:=zf8 len each
  have hmem:∀ i (h:i<l.length),actD l[i]∈elems.map (·.1):=fun i h=>List.mem_of_getElem? (i:=i) (by rw [List.getElem?_map,(hq i h).2.1];rfl)
  have hall:∀ y∈elems.map (·.1),∃ p,y=actD p:=by
   intro y hy
   obtain ⟨i,hi⟩:=List.getElem?_of_mem hy
   have hi' : i<l.length:=by
    have:=(List.getElem?_eq_some_iff.1 hi).1
    simp at this
    omega
   have:=(hq i hi').2.1
   rw [List.getElem?_map,this] at hi
   simp at hi
   exact ⟨l[i],hi.symm⟩
  simp only [Rows.uptoBulk] at hk
  have hlen2:l.length≤87381:=by
   have:=zbc (elems.map (·.1)) hall
   rw [List.length_map] at this
   omega
  refine ⟨l,⟨some a,cap,by rw [hll],by omega,fun hp => ?_⟩,hlen2,fun p hp => ?_⟩
  ·have cell:∀ (k:Nat) (h:k<l.length) (j:Nat),j<10→w.cell? ((a.add (k*10)).add j)=l[k].cells[j]? := fun k h j hj=>(World.cells?_some (hq k h).1).2.2 j hj
   obtain ⟨b,off,spot⟩:=a
   have c0:w.cell? ⟨b,off,spot⟩=some (.int .i64 (l[0]'hp).k):=cell 0 hp 0 (by decide)
   have hspot:spot=none:=by
    cases spot with
    | none=>rfl
    | some q =>
     unfold World.cell? at c0
     split at c0 <;> simp at c0
   subst hspot
   refine ⟨b,off,rfl,?_,?_⟩
   ·have:w.heap[b]? ≠ none:=by
     intro hn
     unfold World.cell? at c0
     rw [hn] at c0
     simp at c0
    have:=mt Array.getElem?_eq_none this
    omega
   ·intro k h j u hu
    have hj:j<10:=(List.getElem?_eq_some_iff.1 hu).1
    have hadd:((⟨b,off,none⟩:Addr).add (k*10)).add j=⟨b,off+k*10+j,none⟩:=by
     unfold Addr.add
     repeat' split
     all_goals simp_all
    have:=cell k h j hj
    rw [hadd,hu] at this
    exact this
  ·obtain ⟨i,hi,rfl⟩:=List.mem_iff_getElem.1 hp
   have h1:=zbe (hmem i hi)
   have h2:=(zbb (H:=H) l[i]).2
   obtain ⟨-,-,hg⟩:=hq i hi
   exact ⟨⟨by omega,by omega⟩,hg.n.1,hg.n.2,by omega,hg⟩
theorem zd1 : Tryz.prog.globalNamed "ripple/state.steps" = some 0 := by kernel_rfl
theorem zd2:(Tryz.prog.globals[0]?).map (·.type)=some 253:=by kernel_rfl
theorem zbH:Tryz.prog.cellsOf 252=5:=by kernel_rfl
set_option maxRecDepth 100000 in
theorem zhI {W:World}{base:Nat}{sp:Nat→Bool}{held:Bool}{fuel:Nat}{cs:List Value}{p:List MemPlace}{a b c d:Int}{r:Bool}
  (h:DataW.trod (fun _=>()) Tryz.prog W base sp held fuel 252 cs=some (.agg [.lit (.int .i64 a),.lit (.int .i64 b),.lit (.int .i64 c),.lit (.int .i64 d),.lit (.bool r)],p)) :
  cs = [.int .i64 a,.int .i64 b,.int .i64 c,.int .i64 d,.bool r]:=by
 obtain ⟨xs,n,-,hx,hl,hxl,hf⟩:=DataW.trod_struct Tryz.underlying252 h
 rw [zbH] at hl
 have h0:=hf 0 _ rfl
 have h1:=hf 1 _ rfl
 have h2:=hf 2 _ rfl
 have h3:=hf 3 _ rfl
 have h4:=hf 4 _ rfl
 match cs,hl,xs,hxl with
 | [v0,v1,v2,v3,v4],_,[x0,x1,x2,x3,x4],_ =>
  have g0:DataW.trod (fun _=>()) Tryz.prog W base sp held n 3 [v0]=some x0:=by simpa [zbA] using h0
  have g1:DataW.trod (fun _=>()) Tryz.prog W base sp held n 3 [v1]=some x1:=by simpa [zbA] using h1
  have g2:DataW.trod (fun _=>()) Tryz.prog W base sp held n 3 [v2]=some x2:=by simpa [zbA] using h2
  have g3:DataW.trod (fun _=>()) Tryz.prog W base sp held n 3 [v3]=some x3:=by simpa [zbA] using h3
  have g4:DataW.trod (fun _=>()) Tryz.prog W base sp held n 4 [v4]=some x4:=by simpa [zby] using h4
  obtain ⟨n0,e0,rfl,-⟩:=DataW.trod_int Tryz.underlying3 g0
  obtain ⟨n1,e1,rfl,-⟩:=DataW.trod_int Tryz.underlying3 g1
  obtain ⟨n2,e2,rfl,-⟩:=DataW.trod_int Tryz.underlying3 g2
  obtain ⟨n3,e3,rfl,-⟩:=DataW.trod_int Tryz.underlying3 g3
  obtain ⟨n4,e4,rfl⟩:=DataW.trod_bool Tryz.underlying4 g4
  simp at hx e0 e1 e2 e3 e4
  obtain ⟨⟨rfl,rfl,rfl,rfl,rfl⟩,-⟩:=hx
  subst e0 e1 e2 e3 e4
  rfl
theorem zmi {cs:List Value}{o:Nat}{v0 v1 v2 v3 v4:Value}(h:(cs.drop o).take 5 = [v0,v1,v2,v3,v4]) :
  cs[o]? = some v0∧cs[o+1]? = some v1∧cs[o+2]? = some v2∧cs[o+3]? = some v3∧cs[o+4]? = some v4:=by
 have at5:∀ j,j<5→cs[o+j]? = [v0,v1,v2,v3,v4][j]? := by
  intro j hj
  rw [← h,List.getElem?_take,if_pos hj,List.getElem?_drop]
 exact ⟨at5 0 (by decide),at5 1 (by decide),at5 2 (by decide),at5 3 (by decide),at5 4 (by decide)⟩
set_option maxRecDepth 100000 in
theorem zl0 {W : World} (h : laidMetH Tryz.prog [("ripple/state.steps", Rows.laid_ripple_state_steps), ("ripple/state.rules", Rows.laid_ripple_state_rules)] W) : StepsAt W := by
 have h' : laidMet Tryz.prog [("ripple/state.steps", Rows.laid_ripple_state_steps), ("ripple/state.rules", Rows.laid_ripple_state_rules)] W := h
 obtain ⟨ps,⟨g,t,cs,fuel,p,q,hg,ht,hvar,hd,-,-⟩,-⟩:=h'
 obtain rfl:=Option.some.inj (zd1.symm.trans hg)
 obtain rfl:=Option.some.inj (zd2.symm.trans ht)
 obtain ⟨xs,m,-,hx,hl,hxl,hf⟩:=DataW.trod_array Tryz.underlying253 hd
 rw [zbH] at hf
 have hcell:∀ i,W.cell? ⟨0,i,none⟩=cs.toList[i]? := fun i=>by rw [World.var?_cell zd1 hvar i];simp
 match xs,hxl with
 | [x0,x1,x2,x3,x4],_ =>
  obtain ⟨y0,p0⟩:=x0
  obtain ⟨y1,p1⟩:=x1
  obtain ⟨y2,p2⟩:=x2
  obtain ⟨y3,p3⟩:=x3
  obtain ⟨y4,p4⟩:=x4
  simp only [Rows.laid_ripple_state_steps,Prod.mk.injEq,List.map_cons,List.map_nil,DataW.agg.injEq,List.cons.injEq,and_true] at hx
  obtain ⟨⟨rfl,rfl,rfl,rfl,rfl⟩,-⟩:=hx
  have r0:=zmi (zhI (hf 0 (by decide)))
  have r1:=zmi (zhI (hf 1 (by decide)))
  have r2:=zmi (zhI (hf 2 (by decide)))
  have r3:=zmi (zhI (hf 3 (by decide)))
  have r4:=zmi (zhI (hf 4 (by decide)))
  simp only [← hcell] at r0 r1 r2 r3 r4
  refine ⟨?_,r0,r1,r2,r3,r4⟩
  have c0:=r0.1
  have:W.heap[0]? ≠ none:=by
   intro hn
   unfold World.cell? at c0
   simp [hn] at c0
  have:=mt Array.getElem?_eq_none this
  omega
open Go.Shelf
def sortAtoms_ren:Go.Shelf.Ren:=⟨fun | 6=>149 | 15=>186 | 14=>185 | 28=>210 | 29=>211 | 20=>202 | 21=>203 | 22=>204 | 23=>205 | 24=>206 | 25=>207 | 26=>208 | 27=>209 | 46=>220 | 47=>221 | 48=>222 | 49=>223 | 50=>224 | 57=>235 | n=>n,fun | 22=>53 | 24=>76 | 25=>191 | 3=>3 | 39=>238 | 0=>0 | 53=>97 | 55=>274 | 4=>4 | 46=>266 | 45=>265 | 50=>270 | 5=>5 | 9=>9 | 66=>280 | 70=>284 | 76=>293 | 77=>294 | n=>n,fun | n=>n⟩
theorem zlL:Go.Proofs.SlLaysF0.n6 Tryz.prog sortAtoms_ren:={
 mixed:=by kernel_rfl,
 f6:=⟨Tryz.f149.name,by decide,Tryz.func149.trans (congrArg some (by kernel_rfl))⟩,
 f14:=⟨Tryz.f185.name,by decide,Tryz.func185.trans (congrArg some (by kernel_rfl))⟩,
 f15:=Tryz.func186.trans (congrArg some (by kernel_rfl)),
 f20:=⟨Tryz.f202.name,by decide,Tryz.func202.trans (congrArg some (by kernel_rfl))⟩,
 f21:=⟨Tryz.f203.name,by decide,Tryz.func203.trans (congrArg some (by kernel_rfl))⟩,
 f22:=⟨Tryz.f204.name,by decide,Tryz.func204.trans (congrArg some (by kernel_rfl))⟩,
 f23:=⟨Tryz.f205.name,by decide,Tryz.func205.trans (congrArg some (by kernel_rfl))⟩,
 f24:=⟨Tryz.f206.name,by decide,Tryz.func206.trans (congrArg some (by kernel_rfl))⟩,
 f25:=⟨Tryz.f207.name,by decide,Tryz.func207.trans (congrArg some (by kernel_rfl))⟩,
 f26:=⟨Tryz.f208.name,by decide,Tryz.func208.trans (congrArg some (by kernel_rfl))⟩,
 f27:=⟨Tryz.f209.name,by decide,Tryz.func209.trans (congrArg some (by kernel_rfl))⟩,
 f28:=Tryz.func210.trans (congrArg some (by kernel_rfl)),
 f29:=Tryz.func211.trans (congrArg some (by kernel_rfl)),
 f46:=⟨Tryz.f220.name,by decide,Tryz.func220.trans (congrArg some (by kernel_rfl))⟩,
 f47:=Tryz.func221.trans (congrArg some (by kernel_rfl)),
 f48:=Tryz.func222.trans (congrArg some (by kernel_rfl)),
 f49:=⟨Tryz.f223.name,by decide,Tryz.func223.trans (congrArg some (by kernel_rfl))⟩,
 f50:=⟨Tryz.f224.name,by decide,Tryz.func224.trans (congrArg some (by kernel_rfl))⟩,
 f57:=⟨Tryz.f235.name,by decide,Tryz.func235.trans (congrArg some (by kernel_rfl))⟩,
 t0:=Tryz.underlying0,
 a0:=Tryz.isAgg0,
 z0:=Tryz.sizeOf0,
 v0:=Tryz.zeroValue0,
 t3:=Tryz.underlying3,
 a3:=Tryz.isAgg3,
 z3:=Tryz.sizeOf3,
 v3:=Tryz.zeroValue3,
 t4:=Tryz.underlying4,
 a4:=Tryz.isAgg4,
 z4:=Tryz.sizeOf4,
 v4:=Tryz.zeroValue4,
 t5:=Tryz.underlying5,
 a5:=Tryz.isAgg5,
 z5:=Tryz.sizeOf5,
 v5:=Tryz.zeroValue5,
 t9:=Tryz.underlying9,
 a9:=Tryz.isAgg9,
 z9:=Tryz.sizeOf9,
 v9:=Tryz.zeroValue9,
 t22:=Tryz.underlying53,
 a22:=Tryz.isAgg53,
 z22:=Tryz.sizeOf53,
 v22:=Tryz.zeroValue53,
 t25:=Tryz.underlying191,
 a25:=Tryz.isAgg191,
 z25:=Tryz.sizeOf191,
 v25:=Tryz.zeroValue191,
 t39:=Tryz.underlying238,
 a39:=Tryz.isAgg238,
 z39:=Tryz.sizeOf238,
 v39:=Tryz.zeroValue238,
 t45:=Tryz.underlying265,
 a45:=Tryz.isAgg265,
 z45:=Tryz.sizeOf265,
 v45:=Tryz.zeroValue265,
 t46:=Tryz.underlying266,
 a46:=Tryz.isAgg266,
 z46:=Tryz.sizeOf266,
 v46:=Tryz.zeroValue266,
 t50:=Tryz.underlying270,
 a50:=Tryz.isAgg270,
 z50:=Tryz.sizeOf270,
 v50:=Tryz.zeroValue270,
 t53:=Tryz.underlying97,
 a53:=Tryz.isAgg97,
 z53:=Tryz.sizeOf97,
 v53:=Tryz.zeroValue97,
 t55:=Tryz.underlying274,
 a55:=Tryz.isAgg274,
 z55:=Tryz.sizeOf274,
 v55:=Tryz.zeroValue274,
 t66:=Tryz.underlying280,
 a66:=Tryz.isAgg280,
 z66:=Tryz.sizeOf280,
 v66:=Tryz.zeroValue280,
 t70:=Tryz.underlying284,
 a70:=Tryz.isAgg284,
 z70:=Tryz.sizeOf284,
 v70:=Tryz.zeroValue284,
 t76:=Tryz.underlying293,
 a76:=Tryz.isAgg293,
 z76:=Tryz.sizeOf293,
 v76:=Tryz.zeroValue293,
 t77:=Tryz.underlying294,
 a77:=Tryz.isAgg294,
 z77:=Tryz.sizeOf294,
 v77:=Tryz.zeroValue294 }
end Go.Proofs.YtahdlejgjcjeoabGreatDoor
