/- Lists of edges of one's own; copy. -/
import Derived.Test.YtahdlejgjcjeoabGreatDoorA44
import Derived.Test.YtahdlejgjcjeoabGreatDoorA31
namespace Go.Proofs.YtahdlejgjcjeoabGreatDoor
set_option maxHeartbeats 8000000
open Go.RowKit
def NetP (Z:Snap)(W x y B M N:Nat)(U:List At)(e:Ending)(w' : World):Prop:=e = .returned (.bool true)∧∃ c',Gm Z w' W x y B (M+36) c' ∧ c'.ok U (N+20)∧c'.far
section
variable {Z:Snap} {w w' : World} {W x y B M N t:Nat} {U:List At} {c:Clu}
set_option maxRecDepth 100000 in
theorem Gm.lNet7 (h:Gm Z w W x y B M c)(hok:c.ok U N)(hL:Lim U N)(hfar:c.far)(r q n ty:Int)(ky:ByteArray)(sd:Int)(el:ByteArray)(on:Int)(key:ByteArray) :
  Calls Tryz.prog 34 #[.pointer (some ⟨W,0,none⟩),.agg #[.int .i64 7,.int .i64 r,.int .i64 q,.int .i64 n,.int .i64 ty,.string ky,.int .i64 sd,.string el,.int .i64 on,.string key]] w (NetP Z W x y B M N U):=by
 have HG:=Hid.mk h
 have c0:=h.cell0
 have c1:=h.cell1
 have hlt:W<w.heap.size:=by obtain ⟨col,KR,KP,g⟩:=h;exact zaY g.wb
 have HK:=Hid.mk hok
 have HLM:=Hid.mk hL
 have HFA:=Hid.mk hfar
 have HSP:=Hid.mk (fun W' => zlV n c.net.length hok.netL W')
 have HT:Hid (∀ W',W'.heap=(w.alloc (.cells #[.int .i64 7,.int .i64 r,.int .i64 q,.int .i64 n,.int .i64 ty,.string ky,.int .i64 sd,.string el,.int .i64 on,.string key] 33)).heap→Below w.heap.size w W' → Gt Z W' W x y B M w.heap.size (actB 7 r q n ty ky sd el on key) c c):=fun W' he hb=>HG.out.withT hb (by rw [he];exact heap_alloc_new w _)
 clear h hok hL hfar
 go_enter Tryz.func34,Tryz.ntmps34
 go_wp2_with fail
 go_region_law (first | (go_simp;go_at_call 38;refine ((HT.out _ (by rfl) (by first | exact zaO (Below.refl _ _) _ | exact (zaO (Below.refl _ _) _).drew)).dFlightN).mono ?_;rintro e w1 ⟨rfl,rfl⟩) | (go_simp;go_at_call 81;refine (HSP.out _).mono ?_;rintro e w2 ⟨kk,rfl,rfl⟩) | fail)
 all_goals
  go_wp2_with fail
  refine ((HT.out _ (by rfl) (by first | exact zaO (Below.refl _ _) _ | exact (zaO (Below.refl _ _) _).drew)).pDeliverN HK.out HLM.out HFA.out kk).mono ?_
  rintro e w3 ⟨rfl,h3⟩
  have H3:=Hid.mk h3
  have c1:=h3.cell1
  clear h3
  go_wp2_with fail
  refine (H3.out.dDeliverN HK.out HLM.out kk).mono ?_
  rintro e w4 ⟨rfl,h4⟩
  have H4:Hid (Gm Z w4 W x y B (M+36) (c.deliver kk)∧(c.deliver kk).ok U (N+20)∧(c.deliver kk).far):=⟨h4.gm.mono (by omega),((HK.out.deliver kk).later (by omega)),zc7 HFA.out kk⟩
  clear h4
  generalize c.netErr kk=E at *
  go_wp2
  go_ret
  exact ⟨by simp,_,H4.out⟩
set_option maxRecDepth 100000 in
theorem Gm.lNet8 (h:Gm Z w W x y B M c)(hok:c.ok U N)(hL:Lim U N)(hfar:c.far)(r q n ty:Int)(ky:ByteArray)(sd:Int)(el:ByteArray)(on:Int)(key:ByteArray) :
  Calls Tryz.prog 34 #[.pointer (some ⟨W,0,none⟩),.agg #[.int .i64 8,.int .i64 r,.int .i64 q,.int .i64 n,.int .i64 ty,.string ky,.int .i64 sd,.string el,.int .i64 on,.string key]] w (NetP Z W x y B M N U):=by
 have HG:=Hid.mk h
 have c0:=h.cell0
 have c1:=h.cell1
 have hlt:W<w.heap.size:=by obtain ⟨col,KR,KP,g⟩:=h;exact zaY g.wb
 have HK:=Hid.mk hok
 have HLM:=Hid.mk hL
 have HFA:=Hid.mk hfar
 have HSP:=Hid.mk (fun W' => zlV n c.net.length hok.netL W')
 have HT:Hid (∀ W',W'.heap=(w.alloc (.cells #[.int .i64 8,.int .i64 r,.int .i64 q,.int .i64 n,.int .i64 ty,.string ky,.int .i64 sd,.string el,.int .i64 on,.string key] 33)).heap→Below w.heap.size w W' → Gt Z W' W x y B M w.heap.size (actB 8 r q n ty ky sd el on key) c c):=fun W' he hb=>HG.out.withT hb (by rw [he];exact heap_alloc_new w _)
 clear h hok hL hfar
 go_enter Tryz.func34,Tryz.ntmps34
 go_wp2_with fail
 go_region_law (first | (go_simp;go_at_call 38;refine ((HT.out _ (by rfl) (by first | exact zaO (Below.refl _ _) _ | exact (zaO (Below.refl _ _) _).drew)).dFlightN).mono ?_;rintro e w1 ⟨rfl,rfl⟩) | (go_simp;go_at_call 81;refine (HSP.out _).mono ?_;rintro e w2 ⟨kk,rfl,rfl⟩) | fail)
 all_goals
  go_wp2_with fail
  refine ((HT.out _ (by rfl) (by first | exact zaO (Below.refl _ _) _ | exact (zaO (Below.refl _ _) _).drew)).pDropN HK.out kk).mono ?_
  rintro e w3 ⟨rfl,h3⟩
  have H3:=Hid.mk h3
  have c1:=h3.cell1
  clear h3
  go_wp2_with fail
  refine (H3.out.dDropN HK.out kk).mono ?_
  rintro e w4 ⟨rfl,h4⟩
  have H4:Hid (Gm Z w4 W x y B (M+36) (c.dropF kk)∧(c.dropF kk).ok U (N+20)∧(c.dropF kk).far):=⟨h4.gm.mono (by omega),((HK.out.dropF kk).later (by omega)),zc8 HFA.out kk⟩
  clear h4
  generalize c.netErr kk=E at *
  go_wp2
  go_ret
  exact ⟨by simp,_,H4.out⟩
set_option maxRecDepth 100000 in
theorem Gm.lNet9 (h:Gm Z w W x y B M c)(hok:c.ok U N)(hL:Lim U N)(hfar:c.far)(r q n ty:Int)(ky:ByteArray)(sd:Int)(el:ByteArray)(on:Int)(key:ByteArray) :
  Calls Tryz.prog 34 #[.pointer (some ⟨W,0,none⟩),.agg #[.int .i64 9,.int .i64 r,.int .i64 q,.int .i64 n,.int .i64 ty,.string ky,.int .i64 sd,.string el,.int .i64 on,.string key]] w (NetP Z W x y B M N U):=by
 have HG:=Hid.mk h
 have c0:=h.cell0
 have c1:=h.cell1
 have hlt:W<w.heap.size:=by obtain ⟨col,KR,KP,g⟩:=h;exact zaY g.wb
 have HK:=Hid.mk hok
 have HLM:=Hid.mk hL
 have HFA:=Hid.mk hfar
 have HSP:=Hid.mk (fun W' => zlV n c.net.length hok.netL W')
 have HT:Hid (∀ W',W'.heap=(w.alloc (.cells #[.int .i64 9,.int .i64 r,.int .i64 q,.int .i64 n,.int .i64 ty,.string ky,.int .i64 sd,.string el,.int .i64 on,.string key] 33)).heap→Below w.heap.size w W' → Gt Z W' W x y B M w.heap.size (actB 9 r q n ty ky sd el on key) c c):=fun W' he hb=>HG.out.withT hb (by rw [he];exact heap_alloc_new w _)
 clear h hok hL hfar
 go_enter Tryz.func34,Tryz.ntmps34
 go_wp2_with fail
 go_region_law (first | (go_simp;go_at_call 38;refine ((HT.out _ (by rfl) (by first | exact zaO (Below.refl _ _) _ | exact (zaO (Below.refl _ _) _).drew)).dFlightN).mono ?_;rintro e w1 ⟨rfl,rfl⟩) | (go_simp;go_at_call 81;refine (HSP.out _).mono ?_;rintro e w2 ⟨kk,rfl,rfl⟩) | fail)
 all_goals
  go_wp2_with fail
  refine ((HT.out _ (by rfl) (by first | exact zaO (Below.refl _ _) _ | exact (zaO (Below.refl _ _) _).drew)).pCopyN HK.out kk).mono ?_
  rintro e w3 ⟨rfl,h3⟩
  have H3:=Hid.mk h3
  have c1:=h3.cell1
  clear h3
  go_wp2_with fail
  refine (H3.out.dCopyN HK.out kk).mono ?_
  rintro e w4 ⟨rfl,h4⟩
  have H4:Hid (Gm Z w4 W x y B (M+36) (c.copyF kk)∧(c.copyF kk).ok U (N+20)∧(c.copyF kk).far):=⟨h4.gm.mono (by omega),((HK.out.copyF kk).later (by omega)),zc6 HFA.out kk⟩
  clear h4
  generalize c.netErr kk=E at *
  go_wp2
  go_ret
  exact ⟨by simp,_,H4.out⟩
set_option maxRecDepth 100000 in
theorem Gm.lNet12 (h:Gm Z w W x y B M c)(hok:c.ok U N)(hL:Lim U (N+20))(hfar:c.far)(hM:M≤15000000)(r q n ty:Int)(ky:ByteArray)(sd:Int)(el:ByteArray)(on:Int)(key:ByteArray)(hn0 : -9223372036854775808≤n)(hn1:n≤9223372036854775807) :
  Calls Tryz.prog 34 #[.pointer (some ⟨W,0,none⟩),.agg #[.int .i64 12,.int .i64 r,.int .i64 q,.int .i64 n,.int .i64 ty,.string ky,.int .i64 sd,.string el,.int .i64 on,.string key]] w (NetP Z W x y B M N U):=by
 have HG:=Hid.mk h
 have c0:=h.cell0
 have c1:=h.cell1
 have hlt:W<w.heap.size:=by obtain ⟨col,KR,KP,g⟩:=h;exact zaY g.wb
 have HK:=Hid.mk hok
 have HLM:=Hid.mk hL
 have HLM0:Hid (Lim U N):=⟨Nat.le_trans (Nat.le_add_right N 20) hL.1,hL.2⟩
 have HFA:=Hid.mk hfar
 have HSP:=Hid.mk (fun W' => zlV n c.net.length hok.netL W')
 have HPK:=Hid.mk (fun W' => ziv n 20 W' hn0 hn1 (by decide) (by decide))
 have HT:Hid (∀ W',W'.heap=(w.alloc (.cells #[.int .i64 12,.int .i64 r,.int .i64 q,.int .i64 n,.int .i64 ty,.string ky,.int .i64 sd,.string el,.int .i64 on,.string key] 33)).heap→Below w.heap.size w W' → Gt Z W' W x y B M w.heap.size (actB 12 r q n ty ky sd el on key) c c):=fun W' he hb=>HG.out.withT hb (by rw [he];exact heap_alloc_new w _)
 clear h hok hL hfar
 go_enter Tryz.func34,Tryz.ntmps34
 go_wp2_with fail
 go_region_law (first | (go_simp;go_at_call 38;refine ((HT.out _ (by rfl) (by first | exact zaO (Below.refl _ _) _ | exact (zaO (Below.refl _ _) _).drew)).dFlightN).mono ?_;rintro e w1 ⟨rfl,rfl⟩) | (go_simp;go_at_call 81;refine (HSP.out _).mono ?_;rintro e w2 ⟨kk,rfl,rfl⟩) | fail)
 all_goals
  go_wp2_with fail
  refine ((HT.out _ (by rfl) (by first | exact zaO (Below.refl _ _) _ | exact (zaO (Below.refl _ _) _).drew)).gm.lFrameN HK.out HLM0.out hM kk).mono ?_
  rintro e w3 ⟨rfl,h3⟩
  have H4:Hid (Gm Z w3 W x y B (M+36) c∧c.ok U (N+20)∧c.far):=⟨h3.mono (by omega),HK.out.later (by omega),HFA.out⟩
  clear h3
  go_wp2
  go_ret
  exact ⟨rfl,_,H4.out⟩
set_option maxRecDepth 100000 in
theorem Gm.lNet10 (h:Gm Z w W x y B M c)(hok:c.ok U N)(hL:Lim U (N+20))(hfar:c.far)(_hM:M≤15000000)(r q n ty:Int)(ky:ByteArray)(sd:Int)(el:ByteArray)(on:Int)(key:ByteArray)(hn0 : -9223372036854775808≤n)(hn1:n≤9223372036854775807) :
  Calls Tryz.prog 34 #[.pointer (some ⟨W,0,none⟩),.agg #[.int .i64 10,.int .i64 r,.int .i64 q,.int .i64 n,.int .i64 ty,.string ky,.int .i64 sd,.string el,.int .i64 on,.string key]] w (NetP Z W x y B M N U):=by
 have HG:=Hid.mk h
 have c0:=h.cell0
 have c1:=h.cell1
 have hlt:W<w.heap.size:=by obtain ⟨col,KR,KP,g⟩:=h;exact zaY g.wb
 have HK:=Hid.mk hok
 have HLM:=Hid.mk hL
 have HLM0:Hid (Lim U N):=⟨Nat.le_trans (Nat.le_add_right N 20) hL.1,hL.2⟩
 have HFA:=Hid.mk hfar
 have HSP:=Hid.mk (fun W' => zlV n c.net.length hok.netL W')
 have HPK:=Hid.mk (fun W' => ziv n 20 W' hn0 hn1 (by decide) (by decide))
 have HT:Hid (∀ W',W'.heap=(w.alloc (.cells #[.int .i64 10,.int .i64 r,.int .i64 q,.int .i64 n,.int .i64 ty,.string ky,.int .i64 sd,.string el,.int .i64 on,.string key] 33)).heap→Below w.heap.size w W' → Gt Z W' W x y B M w.heap.size (actB 10 r q n ty ky sd el on key) c c):=fun W' he hb=>HG.out.withT hb (by rw [he];exact heap_alloc_new w _)
 clear h hok hL hfar
 go_enter Tryz.func34,Tryz.ntmps34
 go_wp2_with fail
 go_region_law (first | (go_simp;go_at_call 38;refine ((HT.out _ (by rfl) (by first | exact zaO (Below.refl _ _) _ | exact (zaO (Below.refl _ _) _).drew)).dFlightN).mono ?_;rintro e w1 ⟨rfl,rfl⟩) | (go_simp;go_at_call 81;refine (HSP.out _).mono ?_;rintro e w2 ⟨kk,rfl,rfl⟩) | fail)
 all_goals
  go_wp2
  go_loopw [6,7,8] (fun s6 s7 s8 wr=>∃ (i:Nat) (E:Int) (c' : Clu),i≤20∧s6 = .int .i64 E∧s7 = .int .i64 E∧s8 = .int .i64 i∧Hid (Gt Z wr W x y B M w.heap.size (actB 10 r q n ty ky sd el on key) c' c' ∧ c'.ok U (N+i)∧c'.far)) (fun _ _ s8 _=>20 - (intOf s8).toNat)
  case atStart=>exact ⟨0,0,c,by omega,rfl,rfl,rfl,HT.out _ (by rfl) (by first | exact zaO (Below.refl _ _) _ | exact (zaO (Below.refl _ _) _).drew),HK.out,HFA.out⟩
  case round =>
   obtain ⟨i,E,c',hi,rfl,rfl,rfl,hg⟩:=hrel
   obtain ⟨hgt,hok',hfar'⟩:=hg.out
   have c0:=hgt.cell0
   have c1:=hgt.cell1
   have ca:=hgt.opC.2.1
   have HF2:=Hid.mk hgt.dFlightN
   have HLi:Hid (Lim U (N+i)):=⟨Nat.le_trans (by omega) HLM.out.1,HLM.out.2⟩
   have HEND:Hid (NetP Z W x y B M N U (.returned (.bool true)) wr):=⟨rfl,c',hgt.gm.mono (by omega),hok'.later (by omega),hfar'⟩
   have HGT:=Hid.mk hgt
   have HOK' := Hid.mk hok'
   have HFA' := Hid.mk hfar'
   clear hgt hok' hfar' hg HT HG
   go_wp2_with fail
   refine (HPK.out _).mono ?_
   rintro e w5 ⟨rr,rfl,hr2,rfl⟩
   obtain ⟨q1,q2⟩:=hr2
   by_cases hir:(i:Int)≤rr
   ·have hi19:i+1≤20:=by omega
    go_wp2_with fail
    refine HF2.out.mono ?_
    rintro e w6 ⟨rfl,rfl⟩
    by_cases hnl:0<c'.net.length
    ·have hnl' : (0:Int)<(c'.net.length:Int):=by omega
     go_wp2_with fail
     refine (HGT.out.pDeliverN HOK'.out HLi.out HFA'.out 0).mono ?_
     rintro e w7 ⟨rfl,h7⟩
     have H7:=Hid.mk h7
     have c1:=h7.cell1
     clear h7
     go_wp2_with fail
     refine (H7.out.dDeliverN HOK'.out HLi.out 0).mono ?_
     rintro e w8 ⟨rfl,h8⟩
     have H8:Hid (Gt Z w8 W x y B M w.heap.size (actB 10 r q n ty ky sd el on key) (c'.deliver 0) (c'.deliver 0)∧(c'.deliver 0).ok U (N+(i+1))∧(c'.deliver 0).far):=⟨h8,HOK'.out.deliver 0,zc7 HFA'.out 0⟩
     clear h8 H7 HEND HF2
     generalize c'.netErr 0=E2 at *
     go_wp2
     exact ⟨⟨i+1,E2,_,hi19,rfl,rfl,by go_num,H8⟩,by simp [intOf];omega⟩
    ·have hnl' : (c'.net.length:Int)=0:=by omega
     rw [hnl'] at *
     go_wp2
     go_ret
     exact HEND.out
   ·go_wp2
    go_ret
    exact HEND.out
end
section
variable {Z:Snap} {w w' : World} {W x y B M N t:Nat} {U:List At} {c cR cP:Clu} {k r q n ty sd on:Int} {ky el key:ByteArray}
theorem Gt.opQ (h:Gt Z w W x y B M t (actB k r q n ty ky sd el on key) cR cP):w.cell? ⟨t,1,none⟩=some (.int .i64 r)∧w.cell? ⟨t,2,none⟩=some (.int .i64 q):=⟨zaX h.blk 1,zaX h.blk 2⟩
set_option maxRecDepth 100000 in
theorem Gm.lAct6 (h:Gm Z w W x y B M c)(hok:c.ok U N)(hL:Lim U N)(r q n ty:Int)(ky:ByteArray)(sd:Int)(el:ByteArray)(on:Int)(key:ByteArray) :
  Calls Tryz.prog 7 #[.pointer (some ⟨W,0,none⟩),.agg #[.int .i64 6,.int .i64 r,.int .i64 q,.int .i64 n,.int .i64 ty,.string ky,.int .i64 sd,.string el,.int .i64 on,.string key]] w fun e w' => e = .returned (.bool true)∧Gm Z w' W x y B M (c.send r q):=by
 have HG:=Hid.mk h
 have c0:=h.cell0
 have c1:=h.cell1
 have hlt:W<w.heap.size:=by obtain ⟨col,KR,KP,g⟩:=h;exact zaY g.wb
 have HK:=Hid.mk hok
 have HLM:=Hid.mk hL
 have HT:Hid (∀ W',W'.heap=(w.alloc (.cells #[.int .i64 6,.int .i64 r,.int .i64 q,.int .i64 n,.int .i64 ty,.string ky,.int .i64 sd,.string el,.int .i64 on,.string key] 33)).heap→Below w.heap.size w W' → Gt Z W' W x y B M w.heap.size (actB 6 r q n ty ky sd el on key) c c):=fun W' he hb=>HG.out.withT hb (by rw [he];exact heap_alloc_new w _)
 clear h hok hL
 go_enter Tryz.func7,Tryz.ntmps7
 go_wp2_with fail
 go_region_held3 (fun W' => W'.cell? ⟨W,0,none⟩=some (.pointer (some ⟨x,0,none⟩))∧W'.cell? ⟨w.heap.size,1,none⟩=some (.int .i64 r)∧W'.cell? ⟨w.heap.size,2,none⟩=some (.int .i64 q)) (first | go_keep | exact ⟨h3.cell0,h3.opQ⟩ | fail) (first | (go_at_call 32;refine ((HT.out _ (by rfl) (by first | exact zaO (Below.refl _ _) _ | exact (zaO (Below.refl _ _) _).drew)).pSend HK.out HLM.out r q).mono ?_;rintro e w3 ⟨rfl,h3⟩) | fail)
 have H3:=Hid.mk h3
 have c1:=h3.cell1
 obtain ⟨d1,d2⟩:=h3.opQ
 clear h3
 go_wp2_with fail
 go_region_held3 (fun W' => W'.cell? ⟨W,1,none⟩=some (.pointer (some ⟨y,0,none⟩))∧W'.cell? ⟨w.heap.size,1,none⟩=some (.int .i64 r)∧W'.cell? ⟨w.heap.size,2,none⟩=some (.int .i64 q)) (first | go_keep | exact ⟨h4.cell1,h4.opQ⟩ | fail) (first | (go_at_call 33;refine ((by first | exact H3.out | exact H3.out.same (Below.refl _ _).drew:Gt Z _ W x y B M w.heap.size _ c _).dSend HK.out HLM.out r q).mono ?_;rintro e w4 ⟨rfl,h4⟩) | fail)
 have H4:=Hid.mk h4
 clear h4
 generalize c.sendErr r q=E at *
 go_wp2
 go_ret
 exact ⟨by simp,H4.out.gm⟩
set_option maxRecDepth 100000 in
theorem Gm.lActN7 (h:Gm Z w W x y B M c)(hok:c.ok U N)(hL:Lim U (N+20))(hfar:c.far)(_hM:M≤15000000)(r q n ty:Int)(ky:ByteArray)(sd:Int)(el:ByteArray)(on:Int)(key:ByteArray)(_hn0 : -9223372036854775808≤n)(_hn1:n≤9223372036854775807) :
  Calls Tryz.prog 7 #[.pointer (some ⟨W,0,none⟩),.agg #[.int .i64 7,.int .i64 r,.int .i64 q,.int .i64 n,.int .i64 ty,.string ky,.int .i64 sd,.string el,.int .i64 on,.string key]] w (NetP Z W x y B M N U):=by
 have HNet:=Hid.mk (fun W' (hg:Gm Z W' W x y B M c)=>hg.lNet7 hok ⟨Nat.le_trans (Nat.le_add_right N 20) hL.1,hL.2⟩ hfar r q n ty ky sd el on key)
 have HG:=Hid.mk h
 clear h hok hL
 go_enter Tryz.func7,Tryz.ntmps7
 go_wp2_with fail
 refine (HNet.out _ (HG.out.same (by first | exact zaO (Below.refl _ _) _ | exact (zaO (Below.refl _ _) _).drew))).mono ?_
 rintro e w3 hP
 obtain ⟨rfl,hP2⟩:=id hP
 have HP:=Hid.mk hP
 clear hP hP2 HNet
 go_wp2
 go_ret
 exact HP.out
set_option maxRecDepth 100000 in
theorem Gm.lActN8 (h:Gm Z w W x y B M c)(hok:c.ok U N)(hL:Lim U (N+20))(hfar:c.far)(_hM:M≤15000000)(r q n ty:Int)(ky:ByteArray)(sd:Int)(el:ByteArray)(on:Int)(key:ByteArray)(_hn0 : -9223372036854775808≤n)(_hn1:n≤9223372036854775807) :
  Calls Tryz.prog 7 #[.pointer (some ⟨W,0,none⟩),.agg #[.int .i64 8,.int .i64 r,.int .i64 q,.int .i64 n,.int .i64 ty,.string ky,.int .i64 sd,.string el,.int .i64 on,.string key]] w (NetP Z W x y B M N U):=by
 have HNet:=Hid.mk (fun W' (hg:Gm Z W' W x y B M c)=>hg.lNet8 hok ⟨Nat.le_trans (Nat.le_add_right N 20) hL.1,hL.2⟩ hfar r q n ty ky sd el on key)
 have HG:=Hid.mk h
 clear h hok hL
 go_enter Tryz.func7,Tryz.ntmps7
 go_wp2_with fail
 refine (HNet.out _ (HG.out.same (by first | exact zaO (Below.refl _ _) _ | exact (zaO (Below.refl _ _) _).drew))).mono ?_
 rintro e w3 hP
 obtain ⟨rfl,hP2⟩:=id hP
 have HP:=Hid.mk hP
 clear hP hP2 HNet
 go_wp2
 go_ret
 exact HP.out
set_option maxRecDepth 100000 in
theorem Gm.lActN9 (h:Gm Z w W x y B M c)(hok:c.ok U N)(hL:Lim U (N+20))(hfar:c.far)(_hM:M≤15000000)(r q n ty:Int)(ky:ByteArray)(sd:Int)(el:ByteArray)(on:Int)(key:ByteArray)(_hn0 : -9223372036854775808≤n)(_hn1:n≤9223372036854775807) :
  Calls Tryz.prog 7 #[.pointer (some ⟨W,0,none⟩),.agg #[.int .i64 9,.int .i64 r,.int .i64 q,.int .i64 n,.int .i64 ty,.string ky,.int .i64 sd,.string el,.int .i64 on,.string key]] w (NetP Z W x y B M N U):=by
 have HNet:=Hid.mk (fun W' (hg:Gm Z W' W x y B M c)=>hg.lNet9 hok ⟨Nat.le_trans (Nat.le_add_right N 20) hL.1,hL.2⟩ hfar r q n ty ky sd el on key)
 have HG:=Hid.mk h
 clear h hok hL
 go_enter Tryz.func7,Tryz.ntmps7
 go_wp2_with fail
 refine (HNet.out _ (HG.out.same (by first | exact zaO (Below.refl _ _) _ | exact (zaO (Below.refl _ _) _).drew))).mono ?_
 rintro e w3 hP
 obtain ⟨rfl,hP2⟩:=id hP
 have HP:=Hid.mk hP
 clear hP hP2 HNet
 go_wp2
 go_ret
 exact HP.out
set_option maxRecDepth 100000 in
theorem Gm.lActN10 (h:Gm Z w W x y B M c)(hok:c.ok U N)(hL:Lim U (N+20))(hfar:c.far)(hM:M≤15000000)(r q n ty:Int)(ky:ByteArray)(sd:Int)(el:ByteArray)(on:Int)(key:ByteArray)(hn0 : -9223372036854775808≤n)(hn1:n≤9223372036854775807) :
  Calls Tryz.prog 7 #[.pointer (some ⟨W,0,none⟩),.agg #[.int .i64 10,.int .i64 r,.int .i64 q,.int .i64 n,.int .i64 ty,.string ky,.int .i64 sd,.string el,.int .i64 on,.string key]] w (NetP Z W x y B M N U):=by
 have HNet:=Hid.mk (fun W' (hg:Gm Z W' W x y B M c)=>hg.lNet10 hok hL hfar hM r q n ty ky sd el on key hn0 hn1)
 have HG:=Hid.mk h
 clear h hok hL
 go_enter Tryz.func7,Tryz.ntmps7
 go_wp2_with fail
 refine (HNet.out _ (HG.out.same (by first | exact zaO (Below.refl _ _) _ | exact (zaO (Below.refl _ _) _).drew))).mono ?_
 rintro e w3 hP
 obtain ⟨rfl,hP2⟩:=id hP
 have HP:=Hid.mk hP
 clear hP hP2 HNet
 go_wp2
 go_ret
 exact HP.out
set_option maxRecDepth 100000 in
theorem Gm.lActN12 (h:Gm Z w W x y B M c)(hok:c.ok U N)(hL:Lim U (N+20))(hfar:c.far)(hM:M≤15000000)(r q n ty:Int)(ky:ByteArray)(sd:Int)(el:ByteArray)(on:Int)(key:ByteArray)(hn0 : -9223372036854775808≤n)(hn1:n≤9223372036854775807) :
  Calls Tryz.prog 7 #[.pointer (some ⟨W,0,none⟩),.agg #[.int .i64 12,.int .i64 r,.int .i64 q,.int .i64 n,.int .i64 ty,.string ky,.int .i64 sd,.string el,.int .i64 on,.string key]] w (NetP Z W x y B M N U):=by
 have HNet:=Hid.mk (fun W' (hg:Gm Z W' W x y B M c)=>hg.lNet12 hok hL hfar hM r q n ty ky sd el on key hn0 hn1)
 have HG:=Hid.mk h
 clear h hok hL
 go_enter Tryz.func7,Tryz.ntmps7
 go_wp2_with fail
 refine (HNet.out _ (HG.out.same (by first | exact zaO (Below.refl _ _) _ | exact (zaO (Below.refl _ _) _).drew))).mono ?_
 rintro e w3 hP
 obtain ⟨rfl,hP2⟩:=id hP
 have HP:=Hid.mk hP
 clear hP hP2 HNet
 go_wp2
 go_ret
 exact HP.out
def ActP (Z:Snap)(W x y B M N:Nat)(U:List At)(e:Ending)(w' : World):Prop:=e = .returned (.bool true)∧∃ c' U',Gm Z w' W x y B (M+36) c' ∧ U'.length≤U.length+1∧c'.ok U' (N+20)∧c'.far
theorem Gm.lActAll (h:Gm Z w W x y B M c)(hok:c.ok U N)(hL:Lim U (N+20))(hfar:c.far)(hM:M≤15000000)(a:ActV)(hf:a.fit) :
  Calls Tryz.prog 7 #[.pointer (some ⟨W,0,none⟩),a.val] w (ActP Z W x y B M N U):=by
 have hL0:Lim U N:=⟨Nat.le_trans (Nat.le_add_right N 20) hL.1,hL.2⟩
 obtain ⟨k,r,q,n,⟨ty,ky,sd,el,on⟩,key⟩:=a
 have hop:=hf.op
 have hn0:=hf.n0
 have hn1:=hf.n1
 have hky:=hf.key
 simp only at hop hn0 hn1 hky
 have up:∀ {e:Ending} {w' : World} {c' : Clu},c'.grows U N→c'.far→e = .returned (.bool true)∧Gm Z w' W x y B M c' → ActP Z W x y B M N U e w' := fun ⟨U',g1,_,g3⟩ hf ⟨h1,h2⟩=>⟨h1,_,U',h2.mono (by omega),g1,g3.later (by omega),hf⟩
 have nt:∀ {e:Ending} {w' : World},NetP Z W x y B M N U e w' → ActP Z W x y B M N U e w' := fun ⟨h1,c',h2,h3,h4⟩=>⟨h1,c',U,h2,by omega,h3,h4⟩
 have st:∀ {e:Ending} {w' : World},e = .returned (.bool true)∧Gm Z w' W x y B (M+36) c→ActP Z W x y B M N U e w' := fun ⟨h1,h2⟩=>⟨h1,c,U,h2,by omega,hok.later (by omega),hfar⟩
 unfold ActV.val
 simp only
 by_cases k1:k=1
 ·subst k1
  exact (h.lAct1 hok hL0 r q n ty ky sd el on key hop).mono fun e w' => up (hok.update _ _) (by have:=zc4 hfar ⟨1,r,q,n,⟨ty,ky,sd,el,on⟩,key⟩;simpa [Clu.acted] using this)
 by_cases k2:k=2
 ·subst k2
  exact (h.lAct2 hok hL0 r q n ty ky sd el on key hop hn0 hn1).mono fun e w' => up (hok.tornOp _ _ _) (by have:=zc4 hfar ⟨2,r,q,n,⟨ty,ky,sd,el,on⟩,key⟩;simpa [Clu.acted] using this)
 by_cases k3:k=3
 ·subst k3
  exact (h.lAct3 hok hL0 r q n ty ky sd el on key).mono fun e w' => up ((hok.crash _).later (by omega)).grows (by have:=zc4 hfar ⟨3,r,q,n,⟨ty,ky,sd,el,on⟩,key⟩;simpa [Clu.acted] using this)
 by_cases k4:k=4
 ·subst k4
  exact (h.lAct4 hok hL0 r q n ty ky sd el on key).mono fun e w' => up ((hok.start _).later (by omega)).grows (by have:=zc4 hfar ⟨4,r,q,n,⟨ty,ky,sd,el,on⟩,key⟩;simpa [Clu.acted] using this)
 by_cases k5:k=5
 ·subst k5
  exact (h.lAct5 hok hL0 r q n ty ky sd el on key).mono fun e w' => up ((hok.compact _).later (by omega)).grows (by have:=zc4 hfar ⟨5,r,q,n,⟨ty,ky,sd,el,on⟩,key⟩;simpa [Clu.acted] using this)
 by_cases k6:k=6
 ·subst k6
  exact (h.lAct6 hok hL0 r q n ty ky sd el on key).mono fun e w' => up (hok.send _ _).grows (zda hfar _ _)
 by_cases k7:k=7
 ·subst k7
  exact (h.lActN7 hok hL hfar hM r q n ty ky sd el on key hn0 hn1).mono fun e w' => nt
 by_cases k8:k=8
 ·subst k8
  exact (h.lActN8 hok hL hfar hM r q n ty ky sd el on key hn0 hn1).mono fun e w' => nt
 by_cases k9:k=9
 ·subst k9
  exact (h.lActN9 hok hL hfar hM r q n ty ky sd el on key hn0 hn1).mono fun e w' => nt
 by_cases k10:k=10
 ·subst k10
  exact (h.lActN10 hok hL hfar hM r q n ty ky sd el on key hn0 hn1).mono fun e w' => nt
 by_cases k12:k=12
 ·subst k12
  exact (h.lActN12 hok hL hfar hM r q n ty ky sd el on key hn0 hn1).mono fun e w' => nt
 by_cases ha:k=11∨k=13∨k=14∨k=15∨k=16∨k=17
 ·exact (h.lActAsks hok hL0 hM k r q n ty ky sd el on key hky ha).mono fun e w' => st
 exact (h.lActOth k r q n ty ky sd el on key (by omega)).mono fun e w' => st
end
section
variable {Z:Snap} {w w' : World} {W x y B M N:Nat} {U:List At} {c:Clu}
set_option maxRecDepth 100000 in
theorem Gm.lLastN (h:Gm Z w W x y B M c)(hok:c.ok U N)(hL:Lim U N)(hM:M≤8000000) :
  Calls Tryz.prog 9 #[.pointer (some ⟨W,0,none⟩)] w fun e w' => e = .returned (.bool true)∧∃ c',Gm Z w' W x y B (M+2500) c' := by
 have c1:=h.cell1
 have h6:=hok.n6
 have HD:=Hid.mk h.dFlight
 have HN:=Hid.mk h
 have HK:=Hid.mk hok
 have HLM:=Hid.mk hL
 have hnl:=hok.netL
 obtain ⟨n,HLN⟩:∃ n,Hid (c.reps.length=n):=⟨_,rfl⟩
 rw [HLN.out] at h6
 clear h hok hL
 go_enter Tryz.func9,Tryz.ntmps9
 go_wp2_with fail
 refine HD.out.mono ?_
 rintro e w1 ⟨rfl,rfl⟩
 generalize hq:c.net.length=n0 at *
 clear HD c1
 go_wp2
 go_loopw [4] (fun s wr=>∃ k:Nat,k≤n0+2∧s = .int .i64 ((k:Int) - 1)∧Hid (Gm Z wr W x y B (M+4*k) c)) (fun s _=>n0+2 - ((intOf s)+1).toNat)
 case atStart=>exact ⟨0,by omega,rfl,HN⟩
 case round =>
  clear HN
  obtain ⟨k,hk,rfl,hn⟩:=hrel
  by_cases hl:k<n0+2
  ·have q1:(k:Int) - 1≤(n0:Int):=by omega
   go_wp2_with fail
   refine (hn.out.lFrameN HK.out HLM.out (by omega) ((k:Int) - 1)).mono ?_
   rintro e w5 ⟨rfl,h5⟩
   have HN5:=Hid.mk h5
   clear h5 hn
   go_wp2
   exact ⟨⟨k+1,by omega,by go_num,HN5.out.mono (by omega)⟩,by simp [intOf];omega⟩
  ·have q1:¬ (k:Int) - 1≤(n0:Int):=by omega
   go_wp2
   go_loopw [6] (fun s wr=>∃ k:Nat,k≤8∧s = .int .i64 ((k:Int) - 1)∧Hid (Gm Z wr W x y B (M+808+72*k) c)) (fun s _=>8 - ((intOf s)+1).toNat)
   case atStart=>exact ⟨0,by omega,rfl,hn.out.mono (by omega)⟩
   case round =>
    clear hn q1 hl hk
    obtain ⟨k,hk,rfl,hn⟩:=hrel
    by_cases hl:k<8
    ·have q1:(k:Int) - 1≤6:=by omega
     go_wp2_with fail
     refine (hn.out.lWhole HK.out HLM.out (by omega) ((k:Int) - 1)).mono ?_
     rintro e w5 ⟨rfl,h5⟩
     have HN5:=Hid.mk h5
     clear h5 hn
     go_wp2
     exact ⟨⟨k+1,by omega,by go_num,HN5.out.mono (by omega)⟩,by simp [intOf];omega⟩
    ·have q1:¬ (k:Int) - 1≤6:=by omega
     go_wp2
     go_loopw [8] (fun s wr=>∃ (k:Nat) (c:Clu),k≤n∧s = .int .i64 k∧Hid (Gm Z wr W x y B (M+1384+72*k) c)∧Hid (c.ok U N∧c.reps.length=n)) (fun s _=>n - (intOf s).toNat)
     case atStart=>exact ⟨0,c,by omega,rfl,hn.out.mono (by omega),⟨HK.out,HLN.out⟩⟩
     case round =>
      clear hn q1 hl hk HK HLN
      obtain ⟨k,c,hk,rfl,hn,hok⟩:=hrel
      have c1:=hn.out.cell1
      have c0:=hn.out.cell0
      obtain ⟨ady,cpy,cy⟩:=hn.out.yR
      rw [hok.out.2] at cy
      by_cases hl:k<n
      ·have q1:(k:Int)<(n:Int):=by omega
       go_wp2_with fail
       refine (hn.out.pStart hok.out.1 HLM.out k).mono ?_
       rintro e w5 ⟨rfl,h5⟩
       have HN5:=Hid.mk h5
       have c1:=h5.cell1
       clear h5 hn cy c0
       go_wp2_with fail
       refine (HN5.out.dStart hok.out.1 HLM.out k).mono ?_
       rintro e w6 ⟨rfl,h6'⟩
       have HN6:=Hid.mk h6'
       clear h6' HN5
       go_wp2_with fail
       refine (Gm.lWhole HN6.out (hok.out.1.start k) HLM.out (by omega) k).mono ?_
       rintro e w7 ⟨rfl,h7⟩
       have HN7:=Hid.mk h7
       clear h7 HN6
       have hok2:=Hid.mk (⟨hok.out.1.start k,(zlY c k).trans hok.out.2⟩:(c.start k).ok U N∧(c.start k).reps.length=n)
       generalize c.startErr k=E at *
       go_wp2
       exact ⟨⟨k+1,c.start k,by omega,by go_num,HN7.out.mono (by omega),hok2⟩,by simp [intOf];omega⟩
      ·have q1:¬ (k:Int)<(n:Int):=by omega
       go_wp2_with fail
       refine hn.out.lFlight.mono ?_
       rintro e w5 ⟨rfl,h5⟩
       have HN5:=Hid.mk h5
       have c2:=h5.cell2
       clear h5 hn cy c0
       go_wp2_with fail
       refine (HN5.out.looks (by omega)).mono ?_
       rintro e w6 ⟨rfl,hb6⟩
       have HN6:=Hid.mk (HN5.out.same hb6)
       clear hb6
       go_wp2
       go_ret
       exact ⟨rfl,c,HN6.out.mono (by omega)⟩
end
section
variable {w0 w:World} {B0 W x y R n B rm M:Nat} {bp rr:Bool} {f:Nat→Nat→Bool} {col:Col} {K:RefC}
end
def edC (p:Int × Int):List Value := [.int .i64 p.1,.int .i64 p.2]
theorem zcA (p:Int × Int):(edC p).length=2:=rfl
def InAt (w:World)(g:Nat)(l:List (Int × Int)):Prop:=w.heap[g]? = some (.cells (l.flatMap edC).toArray 55 (0,0))
theorem zcB (l:List (Int × Int))(k j:Nat)(h:k<l.length)(hj:j<2):(l.flatMap edC)[k*2+j]? = (edC l[k])[j]? := zds edC 2 zcA l k j h hj
theorem zcC (l:List (Int × Int)):(l.flatMap edC).length=l.length*2:=zdt edC 2 zcA l
theorem InAt.cells {w:World}{g:Nat}{l:List (Int × Int)}(h:InAt w g l)(k:Nat)(hk:k<l.length):w.cell? ⟨g,k*2,none⟩=some (.int .i64 l[k].1)∧w.cell? ⟨g,k*2+1,none⟩=some (.int .i64 l[k].2)∧∀ j,w.frozen? ⟨g,j,none⟩=false:=by
 have h0:=zcB l k 0 hk (by omega)
 have h1:=zcB l k 1 hk (by omega)
 refine ⟨?_,?_,fun j=>zaZ h j⟩
 ·rw [zaX h,List.getElem?_toArray,← Nat.add_zero (k*2),h0]
  rfl
 ·rw [zaX h,List.getElem?_toArray,h1]
  rfl
theorem InAt.set {w:World}{g:Nat}{l:List (Int × Int)}(h:InAt w g l)(k:Nat)(hk:k<l.length)(p:Int × Int):InAt ((w.setCell ⟨g,k*2,none⟩ (.int .i64 p.1)).setCell ⟨g,k*2+1,none⟩ (.int .i64 p.2)) g (l.set k p):=by
 have:=zeK (o:=k*2+1) (zeK (o:=k*2) h (.int .i64 p.1)) (.int .i64 p.2)
 unfold InAt
 rw [this]
 congr 2
 apply Array.ext_getElem?
 intro t
 rw [Array.getElem?_setIfInBounds,Array.getElem?_setIfInBounds,List.getElem?_toArray,List.getElem?_toArray]
 have hs1:(l.flatMap edC).length=l.length*2:=zcC l
 have hs2:((l.set k p).flatMap edC).length=l.length*2:=by rw [zcC];simp
 have hz:((l.flatMap edC).toArray.setIfInBounds (k*2) (Value.int .i64 p.1)).size=l.length*2:=by simp [hs1]
 have hz0:(l.flatMap edC).toArray.size=l.length*2:=by simp [hs1]
 by_cases ht:t<l.length*2
 ·have hq:t / 2<(l.set k p).length:=by simp;omega
  have hg:=zcB (l.set k p) (t / 2) (t % 2) hq (Nat.mod_lt _ (by decide))
  rw [show t / 2*2+t % 2=t by omega] at hg
  rw [hg]
  by_cases e1:k*2+1=t
  ·rw [if_pos e1,if_pos (by omega)]
   have h1:t / 2=k:=by omega
   have h2:t % 2=1:=by omega
   rw [h2]
   simp [h1,edC]
  ·rw [if_neg e1]
   by_cases e2:k*2=t
   ·rw [if_pos e2,if_pos (by omega)]
    have h1:t / 2=k:=by omega
    have h2:t % 2=0:=by omega
    rw [h2]
    simp [h1,edC]
   ·rw [if_neg e2]
    have h1:k ≠ t / 2:=by omega
    have hg2:=zcB l (t / 2) (t % 2) (by omega) (Nat.mod_lt _ (by decide))
    rw [show t / 2*2+t % 2=t by omega] at hg2
    rw [hg2]
    simp [h1]
 ·rw [if_neg (by omega),if_neg (by omega),List.getElem?_eq_none (by omega),List.getElem?_eq_none (by omega)]
theorem InAt.below {w w' : World}{g:Nat}{l:List (Int × Int)}(h:InAt w g l)(hb:Below w.heap.size w w'):InAt w' g l:=(hb.block g (zaY h)).trans h
theorem InAt.edges {w:World}{g cap:Nat}{l es:List (Int × Int)}(h:InAt w g l)(hl:es.length≤l.length)(he:l.take es.length=es)(hc:es.length≤cap):EdgesOf w (.slice (some ⟨g,0,none⟩) es.length cap) es:=by
 refine ⟨_,cap,rfl,hc,fun _=>⟨g,0,rfl,zaY h,fun i hi => ?_⟩⟩
 have hil:i<l.length:=by omega
 have hx:l[i]=es[i]:=by
  have:(l.take es.length)[i]? = es[i]? := by rw [he]
  rw [List.getElem?_take,if_pos hi,List.getElem?_eq_getElem hil,List.getElem?_eq_getElem hi] at this
  exact Option.some.inj this
 obtain ⟨h1,h2,-⟩:=h.cells i hil
 rw [hx] at h1 h2
 rw [Nat.zero_add]
 exact ⟨h1,h2⟩
theorem ze3:(Tryz.prog.info? 55).map (fun i=>(i.zero,i.size,i.bytes))=some (some (.agg #[.int .i64 0,.int .i64 0]),2,16):=by kernel_rfl
theorem zlA:(Tryz.prog.info? 55).map (·.size)=some 2:=by kernel_rfl
theorem zgk (n:Nat)(h:n≤1048577)(W:World):(Instr.makeSlice 22 (.int .i64 (n:Int)) (.int .i64 (n:Int))).run Tryz.prog W = .ok (.slice (some ⟨W.heap.size,0,none⟩) n n) (W.alloc (.cells ((List.replicate n ((0:Int),(0:Int))).flatMap edC).toArray 55)):=by
 obtain ⟨i,hi,hz0,hz1,hz2⟩:=info_parts ze3
 have hr:=run_make (P:=Tryz.prog) W 22 55 i _ Tryz.underlying22 hi hz0 .i64 .i64 n n (by omega) (Int.le_refl _) (by rw [hz2];omega) (by omega)
 simp only [Int.toNat_natCast] at hr
 have hm:madeCells (Value.cells (.agg #[.int .i64 0,.int .i64 0])) (n*2)=((List.replicate n ((0:Int),(0:Int))).flatMap edC).toArray:=by
  suffices hL:(madeCells (Value.cells (.agg #[.int .i64 0,.int .i64 0])) (n*2)).toList=(List.replicate n ((0:Int),(0:Int))).flatMap edC by
   rw [← hL]
  apply List.ext_getElem?
  intro t
  by_cases ht:t<n*2
  ·have hg:=zcB (List.replicate n ((0:Int),(0:Int))) (t / 2) (t % 2) (by simp;omega) (Nat.mod_lt _ (by decide))
   rw [show t / 2*2+t % 2=t by omega] at hg
   rw [hg,List.getElem_replicate]
   have hcase:t % 2=0∨t % 2=1:=by omega
   rcases hcase with e | e <;> simp [madeCells,Value.cells,ht,e,edC]
  ·have h1:((List.replicate n ((0:Int),(0:Int))).flatMap edC).length≤t:=by rw [zcC];simp;omega
   rw [List.getElem?_eq_none h1,List.getElem?_eq_none (by simp [madeCells];omega)]
 rw [hr,hz1,hm]
theorem zkX {P:Program}(w:World)(dT sT ty elem:TypeId)(g o dLen dCap:Nat)(a:Addr)(sLen sCap:Nat)(cur:Array Value)(t:TypeId)(cs:List Value)
  (hu:P.underlying dT=some (.slice elem)) (hs:(P.info? elem).map (·.size)=some 2)
  (hg:w.heap[g]? = some (.cells cur t (0,0))) (hn:cs.length=Nat.min sLen dLen*2)
  (hsrc:∀ j v,cs[j]? = some v→w.cell? (a.add j)=some v) (hfit:o+cs.length≤cur.size) (h1:∀ v∈cs,v.oneCell' = true) :
  (Builtin.copy_ #[dT,sT] ty #[.slice (some ⟨g,o,none⟩) dLen dCap,.slice (some a) sLen sCap]).run P w =
   .ok (goInt (Nat.min sLen dLen)) (w.setRow g (cur.toList.take o ++ cs ++ cur.toList.drop (o+cs.length)).toArray):=by
 have hl:=run_loadCells_list (P:=P) w a cs hsrc
 have hst:=run_storeCells_at P g o t cs 0 cur w hg (by simpa using hfit) h1
 cases hq:P.info? elem with
 | none=>simp [hq] at hs
 | some i =>
  have hi:i.size=2:=by simpa [hq] using hs
  simp [Builtin.copy_,run_underlying hu,Builtin.lenOf,Builtin.firstCells,sizeOf,typeInfo,hq,hi,← hn,hl,hst]
theorem zkW {P:Program}(w:World)(dT sT ty elem:TypeId)(g o dLen dCap:Nat)(ad:Option Addr)(sCap:Nat)
  (hu:P.underlying dT=some (.slice elem)) (hs:(P.info? elem).map (·.size)=some 2) :
  (Builtin.copy_ #[dT,sT] ty #[.slice (some ⟨g,o,none⟩) dLen dCap,.slice ad 0 sCap]).run P w = .ok (goInt 0) w:=by
 cases hq:P.info? elem with
 | none=>simp [hq] at hs
 | some i =>
  have hi:i.size=2:=by simpa [hq] using hs
  have hl:∀ (x:Addr),(loadCells x 0).run P w = .ok #[] w:=fun x=>by simpa using run_loadCells_list (P:=P) w x [] (by simp)
  cases ad <;> simp [Builtin.copy_,run_underlying hu,Builtin.lenOf,Builtin.firstCells,sizeOf,typeInfo,hq,storeCells,hl]
theorem znI {P:Program}{w:World}{ops:Array Oper}{rest:List Oper}{o:Oper}{a:Act}{Q:Exit→Act→World→Prop}(hgd:o.guard=none)(d s:Operand)(dT sT:TypeId)
  (ho:o.op = .call { callee := .builtin .copy,args:=#[d,s],argTypes:=#[dT,sT] }) (hu:P.underlying dT=some (.slice 55)) (hsz:(P.info? 55).map (·.size)=some 2)
  (g cap N:Nat) (l:List (Int × Int)) (hN:l.length=N) (hd:a.eval d = .slice (some ⟨g,0,none⟩) N cap) (hin:InAt w g l)
  (v:Value) (hs:a.eval s=v) (es:List (Int × Int)) (hv:EdgesOf w v es) (hle:es.length≤l.length)
  (h:∀ w',InAt w' g (es ++ l.drop es.length)→w.grownBy w' (some g)→wpList P ops Q rest (a.put o.dst (goInt es.length)) w'):wpList P ops Q (o :: rest) a w:=by
 refine wpList_plain hgd fun K hK => ?_
 subst hN
 obtain ⟨ad,capS,rfl,hcap,H⟩:=hv
 by_cases h0:0<es.length
 ·obtain ⟨b,off,rfl,hb,hrow⟩:=H h0
  have hmin:Nat.min es.length l.length=es.length:=Nat.min_eq_left hle
  have hfit:0+(es.flatMap edC).length≤(l.flatMap edC).toArray.size:=by rw [List.size_toArray,zcC,zcC];have:=Nat.mul_le_mul_right 2 hle;omega
  have hsrc:∀ j u,(es.flatMap edC)[j]? = some u→w.cell? ((⟨b,off,none⟩:Addr).add j)=some u:=by
   intro j u hu'
   have hadd:(⟨b,off,none⟩:Addr).add j=⟨b,off+j,none⟩:=by unfold Addr.add;split <;> simp_all
   have hj:j<(es.flatMap edC).length:=(List.getElem?_eq_some_iff.1 hu').1
   rw [zcC] at hj
   have hg:=zcB es (j / 2) (j % 2) (by omega) (Nat.mod_lt _ (by decide))
   rw [show j / 2*2+j % 2=j by omega,hu'] at hg
   obtain ⟨r0,r1⟩:=hrow (j / 2) (by omega)
   rw [hadd]
   rcases (show j % 2=0∨j % 2=1 by omega) with e | e
   ·rw [e] at hg
    rw [show off+j=off+j / 2*2 by omega,r0,hg]
    rfl
   ·rw [e] at hg
    rw [show off+j=off+j / 2*2+1 by omega,r1,hg]
    rfl
  have h1:∀ u∈es.flatMap edC,u.oneCell' = true:=by
   intro u hu'
   obtain ⟨p,_,hp⟩:=List.mem_flatMap.1 hu'
   simp only [edC,List.mem_cons,List.not_mem_nil,or_false] at hp
   rcases hp with rfl | rfl <;> rfl
  have hrun:=zkX (P:=P) w dT sT o.type 55 g 0 l.length cap ⟨b,off,none⟩ es.length capS _ _ (es.flatMap edC) hu hsz hin (by rw [hmin,zcC]) hsrc hfit h1
  rw [hmin] at hrun
  unfold Oper.wp
  simp only [execOp,ho,resolve,invoke,builtin,Sem.run_bind,Sem.run_pure,Result.andThen_ok,List.map_toArray,List.map_cons,List.map_nil,hd,hs,hrun]
  refine hK _ _ (h _ ?_ ?_)
  ·unfold InAt
   rw [setRow_heap w g _ _ _ _ hin]
   congr 3
   simp only [List.take_zero,List.nil_append,Nat.zero_add,List.flatMap_append]
   congr 1
   rw [zcC]
   apply List.ext_getElem?
   intro t
   rw [List.getElem?_drop]
   by_cases ht:t<(l.drop es.length).length*2
   ·have hg1:=zcB (l.drop es.length) (t / 2) (t % 2) (by omega) (Nat.mod_lt _ (by decide))
    rw [show t / 2*2+t % 2=t by omega] at hg1
    have ht2:t<(l.length - es.length)*2:=by simpa using ht
    have hg2:=zcB l (es.length+t / 2) (t % 2) (by omega) (Nat.mod_lt _ (by decide))
    rw [show (es.length+t / 2)*2+t % 2=es.length*2+t by omega] at hg2
    rw [hg1,hg2,List.getElem_drop]
   ·have ht2:¬ t<(l.length - es.length)*2:=by simpa using ht
    rw [List.getElem?_eq_none (by rw [zcC];omega),List.getElem?_eq_none (by rw [zcC];omega)]
  ·exact ⟨rfl,rfl,rfl,by simp [World.setRow],fun k _ hne=>setRow_other w g k _ (fun e=>hne (by rw [e]))⟩
 ·obtain rfl:=List.length_eq_zero_iff.1 (by omega:es.length=0)
  have hrun:=zkW (P:=P) w dT sT o.type 55 g 0 l.length cap ad capS hu hsz
  unfold Oper.wp
  simp only [execOp,ho,resolve,invoke,builtin,Sem.run_bind,Sem.run_pure,Result.andThen_ok,List.map_toArray,List.map_cons,List.map_nil,hd,hs,List.length_nil,hrun]
  exact hK _ _ (h w (by simpa using hin) ⟨rfl,rfl,rfl,Nat.le_refl _,fun _ _ _=>rfl⟩)
end Go.Proofs.YtahdlejgjcjeoabGreatDoor
