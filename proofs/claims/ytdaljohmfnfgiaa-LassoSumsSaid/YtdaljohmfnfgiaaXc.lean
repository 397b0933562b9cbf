/- LassoSumsSaid: what its proof is made of, part 3. No condition. -/
import Derived.Test.YtdaljohmfnfgiaaXb
namespace Go.Proofs.Ytdaljohmfnfgiaa
open Go Go.RowKit Go.Proofs.Ytdaljohmfnfgiaa.Canon
set_option maxRecDepth 20000
theorem scale_ref {A : AHeap} (hw : WF A) {x : Las} (hox : x.ok A) {k : Int} :
    Con Try.prog 46 [x.v,.int .i64 k] A (TldR A x.err x.m fun n => (nrm k x.m * x.s n).tmod x.m) := by
  refine zAJ hc Try.func46 rfl (Nat.le_of_ble_eq_true rfl) ?_
  obtain ⟨A1,e1,hx1,hn1,b0,b1,b2⟩ := box3 hw (.int .i64 x.m) (.slice x.sa x.st.length x.sc) (.slice x.ra x.ro.length x.rc) 24
  have hxr : Nx A1.next A1 (A1.push (.cells #[.int .i64 0,.slice none 0 0,.slice none 0 0] 24)) := (Nx.refl hx1.wf _).push (Nat.le_refl _) _
  have lr := zAM A1 (.cells #[.int .i64 0,.slice none 0 0,.slice none 0 0] 24)
  have hnr : (A1.push (.cells #[.int .i64 0,.slice none 0 0,.slice none 0 0] 24)).next = A1.next + 1 := rfl
  generalize er : A1.push (.cells #[.int .i64 0,.slice none 0 0,.slice none 0 0] 24) = Ar at hxr lr hnr
  have b0 := (hxr.cl (show A.next < A1.next by omega) 0).trans b0
  have b1 := (hxr.cl (show A.next < A1.next by omega) 1).trans b1
  have b2 := (hxr.cl (show A.next < A1.next by omega) 2).trans b2
  have hx0r : Nx A.next A Ar := hx1.trans (hxr.le hx1.next)
  obtain ⟨o1,o2,o3,o4⟩ := hox.nx hx0r
  rw [s_in2]
  unfold Las.v
  (repeat (first | refine Rn.seq hc ?_ | refine Rn.skip hc ?_ | refine Rn.block hc ?_ | refine Rn.inBlock hc ?_ | refine Rn.scope hc ?_ | refine Rn.inScope hc ?_))
  refine Rn.reg hc rfl ?_
  simp only [zAY,zAS,zAU,zAT,Nat.reduceLT,ne_eq,Nat.reduceEqDiff,zNf,gd,zAX,rops,fx,zOi,zEl,Value.cells,show Try.f46.ntmps = 68 from rfl,e1,ze24,er]
  (repeat (first | refine Rn.seq hc ?_ | refine Rn.skip hc ?_ | refine Rn.block hc ?_ | refine Rn.inBlock hc ?_ | refine Rn.scope hc ?_ | refine Rn.inScope hc ?_))
  refine Rn.region hc fun K hK => ?_
  refine Wo.run hc 1 rfl rfl rfl ?_
  simp (maxSteps := 2000000) only [List.drop_zero,List.take_succ_cons,List.take_zero,zAY,zAU,zAT,sp_n,Nat.reduceLT,ne_eq,Nat.reduceEqDiff,not_false_eq_true,gd,zAX,rops,fx,ld,zAR,cls,Nat.zero_add,Option.some.injEq,exists_eq_left',Nat.reduceAdd,tk24,b0,b1,b2]
  refine Wo.call hc (by rfl) (by rfl) ⟨by rfl,by rfl⟩ (xs := [.agg #[.int .i64 x.m,.slice x.sa x.st.length x.sc,.slice x.ra x.ro.length x.rc]]) (by rfl) (by rfl) (by rfl) (Con.mono (check_ref hx0r.wf o1 o2 o3 o4) ?_)
  rintro w A4 ⟨rfl,hx4⟩
  rw [show errL x.m x.st x.ro = x.err from rfl]
  refine Wo.run hc 1 rfl rfl rfl ?_
  simp (maxSteps := 2000000) only [List.drop_zero,List.drop_succ_cons,List.take_succ_cons,List.take_zero,zAY,zAU,sp_n,Nat.reduceLT,gd,zAX,rops,fx,Option.some.injEq,exists_eq_left',Nat.reduceAdd]
  refine Wo.done hc rfl (hK _ _ ?_)
  clear hK
  (repeat (first | refine Rn.seq hc ?_ | refine Rn.skip hc ?_ | refine Rn.block hc ?_ | refine Rn.inBlock hc ?_ | refine Rn.scope hc ?_ | refine Rn.inScope hc ?_))
  have hx04 : Nx A.next A A4 := hx0r.trans (hx4.le hx0r.next)
  have n4 := hx4.next
  have b0 := (hx4.cl (show A.next < Ar.next by omega) 0).trans b0
  have b1 := (hx4.cl (show A.next < Ar.next by omega) 1).trans b1
  have b2 := (hx4.cl (show A.next < Ar.next by omega) 2).trans b2
  have l4 : Canon.look A4.objs A1.next = _ := (hx4.keep _ (by omega)).trans lr
  by_cases he : x.err = 0
  · have hd : (!decide (x.err = 0)) = false := by rw [decide_eq_true he]; rfl
    obtain ⟨m1,m2,m3⟩ := err_len he
    obtain ⟨mx,lx⟩ := err_lim he
    obtain ⟨W,hW⟩ : ∃ W : Nat → Int,W = fun n => (nrm k x.m * x.s n).tmod x.m := ⟨_,rfl⟩
    have hWv : ∀ n,(nrm k x.m * x.s n).tmod x.m = W n := fun n => by rw [hW]
    have hPer : Per W x.st.length x.ro.length := by
      rw [hW]
      have h1 : Per x.s x.st.length x.ro.length := atL_per m3
      exact ⟨h1.pos,fun n hn => by rw [h1.per n hn]⟩
    have hk := nrm_lim k (show 0 < x.m by omega)
    rw [he,← hW]
    clear hW
    refine Rn.reg hc rfl ?_
    simp only [zAY,zAS,zAU,sp_n,Nat.reduceLT,gd,zAX,rops,fx,zAD,zOi,zEl]
    (repeat (first | refine Rn.seq hc ?_ | refine Rn.skip hc ?_ | refine Rn.block hc ?_ | refine Rn.inBlock hc ?_ | refine Rn.scope hc ?_ | refine Rn.inScope hc ?_))
    refine Rn.zAL hc rfl ?_
    simp only [zAY,zAU,sp_n,Nat.reduceLT,Value.bool.injEq,zEl]
    (repeat (first | refine Rn.seq hc ?_ | refine Rn.skip hc ?_ | refine Rn.block hc ?_ | refine Rn.inBlock hc ?_ | refine Rn.scope hc ?_ | refine Rn.inScope hc ?_))
    refine Rn.region hc fun K hK => ?_
    refine Wo.run hc 3 rfl rfl rfl ?_
    simp (maxSteps := 2000000) only [List.drop_zero,List.take_succ_cons,List.take_zero,zAY,zAU,zAT,sp_n,Nat.reduceLT,ne_eq,Nat.reduceEqDiff,not_false_eq_true,gd,zAX,rops,fx,ld,fad,zAR,Nat.zero_add,Nat.add_zero,Option.some.injEq,exists_eq_left',tk3,zBO,b0]
    refine Wo.call hc (by rfl) (by rfl) ⟨by rfl,by rfl⟩ (xs := [.int .i64 k,.int .i64 x.m]) (by rfl) (by rfl) (by rfl) (Con.mono (residue_ref hx04.wf (n := k) (m := x.m) (by omega)) ?_)
    rintro w A5 ⟨rfl,hx5⟩
    refine Wo.run hc 1 rfl rfl rfl ?_
    simp (maxSteps := 2000000) only [List.drop_zero,List.drop_succ_cons,List.take_succ_cons,List.take_zero,zAY,zAU,sp_n,Nat.reduceLT,gd,zAX,rops,fx,Option.some.injEq,exists_eq_left',Nat.reduceAdd]
    refine Wo.done hc rfl (hK _ _ ?_)
    clear hK
    (repeat (first | refine Rn.seq hc ?_ | refine Rn.skip hc ?_ | refine Rn.block hc ?_ | refine Rn.inBlock hc ?_ | refine Rn.scope hc ?_ | refine Rn.inScope hc ?_))
    obtain ⟨kk,hkk⟩ : ∃ kk,kk = nrm k x.m := ⟨_,rfl⟩
    rw [← hkk] at hk ⊢
    have hWk : ∀ n,(x.s n * kk).tmod x.m = W n := fun n => by rw [Int.mul_comm,hkk]; exact hWv n
    clear hWv
    have hx05 : Nx A.next A A5 := hx04.trans (hx5.le hx04.next)
    have n5 := hx5.next
    have b0 := (hx5.cl (show A.next < A4.next by omega) 0).trans b0
    have b1 := (hx5.cl (show A.next < A4.next by omega) 1).trans b1
    have b2 := (hx5.cl (show A.next < A4.next by omega) 2).trans b2
    have l5 : Canon.look A5.objs A1.next = _ := (hx5.keep _ (by omega)).trans l4
    have hx5a : Nx A5.next A5 (A5.push (.cells #[.int .i64 0,.slice none 0 0,.slice none 0 0] 24)) := (Nx.refl hx05.wf _).push (Nat.le_refl _) _
    have l5a := zAM A5 (.cells #[.int .i64 0,.slice none 0 0,.slice none 0 0] 24)
    have hn5a : (A5.push (.cells #[.int .i64 0,.slice none 0 0,.slice none 0 0] 24)).next = A5.next + 1 := rfl
    generalize e5 : A5.push (.cells #[.int .i64 0,.slice none 0 0,.slice none 0 0] 24) = C5a at hx5a l5a hn5a
    obtain ⟨C5,c5,q5,u5,u6,u7⟩ := sts_upd (l := [.int .i64 x.m,.slice none 0 0,.slice none 0 0]) (o := 0) l5a rfl (by simp) rfl
    have hc5 : c5 = #[.int .i64 x.m,.slice none 0 0,.slice none 0 0] := by
      refine Array.ext_getElem? fun i => ?_
      rw [u7 i]
      by_cases hi : i < 3
      · rw [if_pos ⟨Nat.zero_le _,by simpa using hi⟩]
        simp
      · rw [if_neg (by simp; omega)]
        rw [Array.getElem?_eq_none (by simp; omega),Array.getElem?_eq_none (by simp; omega)]
    subst hc5
    have hxC : Nx A5.next A5 C5 := hx5a.trans (u5.nx hx5a.wf (Nat.le_refl _))
    have hn5 : C5.next = A5.next + 1 := by rw [u5.next,hn5a]
    have l5B : Canon.look C5.objs A5.next = some ⟨.cells #[.int .i64 x.m,.slice none 0 0,.slice none 0 0] 24,false,0⟩ := by
      obtain ⟨c',t,f,g,e,r1,r2,_⟩ := u5.at'
      rw [l5a] at r1
      cases r1
      exact r2
    have hA5 : Nx A.next A C5 := hx05.trans (hxC.le hx05.next)
    have lR : Canon.look C5.objs A1.next = _ := (hxC.keep _ (by omega)).trans l5
    have P0 := (hxC.cl (show A.next < A5.next by omega) 0).trans b0
    have P1 := (hxC.cl (show A.next < A5.next by omega) 1).trans b1
    have P2 := (hxC.cl (show A.next < A5.next by omega) 2).trans b2
    refine Rn.reg hc rfl ?_
    simp only [zAY,zAU,zAT,sp_n,zAO,Nat.reduceLT,ne_eq,Nat.reduceEqDiff,zNf,gd,zAX,rops,fx,ld,str,fad,zAR,Nat.zero_add,Nat.add_zero,zOi,zEl,Value.cells,Nat.reduceAdd,tk3,tk24,zBO,b0,bd24_0,zBY,List.size_toArray,List.length_cons,List.length_nil,Nat.beq_refl,ze24,e5,q5]
    (repeat (first | refine Rn.seq hc ?_ | refine Rn.skip hc ?_ | refine Rn.block hc ?_ | refine Rn.inBlock hc ?_ | refine Rn.scope hc ?_ | refine Rn.inScope hc ?_))
    refine Rn.reg hc rfl ?_
    simp only [zAY,zAS,zAU,zAT,sp_n,Nat.reduceLT,ne_eq,Nat.reduceEqDiff,zNf,gd,zAX,rops,fx,ld,fad,lng,zAR,Nat.zero_add,zOi,zEl,tk22,zBQ,un22,P1]
    (repeat (first | refine Rn.seq hc ?_ | refine Rn.skip hc ?_ | refine Rn.block hc ?_ | refine Rn.inBlock hc ?_ | refine Rn.scope hc ?_ | refine Rn.inScope hc ?_))
    obtain ⟨bO,hbOe⟩ : ∃ b,b = A5.next := ⟨_,rfl⟩
    have hbO : bO < C5.next := by omega
    rw [← hbOe] at l5B ⊢
    obtain ⟨bR,hbR⟩ : ∃ b,b = A1.next := ⟨_,rfl⟩
    rw [← hbR] at lR ⊢
    clear q5 e5 u5 u6 u7 hxC hx5a l5a b0 b1 b2 l4 l5 lr
    have hoC := hox.nx hA5
    refine Rn.loopI hc (I := fun k s G => ∃ n wa wb,n ≤ x.st.length ∧ k = x.st.length - n ∧ WF G ∧ C5.next ≤ G.next ∧ (∀ b,b < C5.next → b ≠ bO → Canon.look G.objs b = Canon.look C5.objs b) ∧ Canon.look G.objs bO = some ⟨.cells #[.int .i64 x.m,.slice wa n n,.slice wb 0 0] 24,false,0⟩ ∧ Gr2 G wa wb C5.next (redS W n) [] ∧ s.n = 68 ∧ sget s 2 = .pointer (some ⟨A.next,0,none⟩) ∧ sget s 4 = .pointer (some ⟨bR,0,none⟩) ∧ sget s 7 = .int .i64 kk ∧ sget s 8 = .pointer (some ⟨bO,0,none⟩) ∧ sget s 27 = .slice x.sa x.st.length x.sc ∧ sget s 28 = .int .i64 (x.st.length : Int) ∧ sget s 29 = .int .i64 (n : Int))
      (n := x.st.length) ⟨0,none,none,by omega,rfl,hA5.wf,Nat.le_refl _,fun _ _ _ => rfl,l5B,Gr2.nil (Nat.le_refl _),by simp only [sp_n],by simp only [zAU,zAT,sp_n,Nat.reduceLT,ne_eq,Nat.reduceEqDiff,zNf],by simp only [zAU,zAT,sp_n,Nat.reduceLT,ne_eq,Nat.reduceEqDiff,zNf],by simp only [zAU,zAT,sp_n,Nat.reduceLT,ne_eq,Nat.reduceEqDiff,zNf],by simp only [zAU,zAT,sp_n,Nat.reduceLT,ne_eq,Nat.reduceEqDiff,zNf],by simp only [zAU,zAT,sp_n,Nat.reduceLT,ne_eq,Nat.reduceEqDiff,zNf],by simp only [zAU,zAT,sp_n,Nat.reduceLT,ne_eq,Nat.reduceEqDiff,zNf],by simp only [zAU,sp_n,Nat.reduceLT]; rfl⟩ ?_
    clear l5B
    rintro k' s G ⟨n,wa,wb,hnH,rfl,hwG,hnG,hkeep,lG,gG,hn,s2,s4,s7,s8,s27,s28,s29⟩ ih
    have hAG : Nx A.next A G := ⟨by have := hA5.next; omega,hwG,fun b hb => (hkeep b (by omega) (by omega)).trans (hA5.keep b hb)⟩
    have p0 := (zAB (o := 0) (hkeep A.next (by omega) (by omega))).trans P0
    have nAG : A.next < G.next := by omega
    (repeat (first | refine Rn.seq hc ?_ | refine Rn.skip hc ?_ | refine Rn.block hc ?_ | refine Rn.inBlock hc ?_ | refine Rn.scope hc ?_ | refine Rn.inScope hc ?_))
    by_cases hlt : n < x.st.length
    · have hd : decide ((n : Int) < (x.st.length : Int)) = true := decide_eq_true (by omega)
      obtain ⟨bb,oo,hbe,-,hb1,hcl⟩ := (hoC.1 n hlt)
      have hcl : cl G bb (oo + n) = some (.int .i64 (x.s n)) := by
        obtain ⟨bb2,oo2,hbe2,-,hb2,hcl2⟩ := (show Ints A _ 0 A.next _ from hox.1) n hlt
        rw [hbe] at hbe2
        cases hbe2
        rw [hAG.cl hb2,hcl2]
        exact congrArg (fun z => some (Value.int .i64 z)) (atL_st hlt).symm
      have sq := s27
      rw [hbe] at sq
      have hlx := lx n
      have hmul := mul_lim hlx.1 (by omega) hk.1 (by omega)
      have hwm : IntKind.i64.wrap (x.s n * kk) = x.s n * kk := IntWalk.i64_in _ ⟨by omega,by omega⟩
      have hr : ∀ M,bin Try.prog .rem 3 (.int .i64 (x.s n * kk)) (.int .i64 x.m) M = some (.int .i64 (W n),M) := fun M => by
        rw [← hWk]
        exact zBB _ _ _ _ (by omega)
      refine Rn.reg hc rfl ?_
      simp only [zAY,gd,zAX,rops,fx,zAK,zOi,zEl,s28,s29,hd]
      (repeat (first | refine Rn.seq hc ?_ | refine Rn.skip hc ?_ | refine Rn.block hc ?_ | refine Rn.inBlock hc ?_ | refine Rn.scope hc ?_ | refine Rn.inScope hc ?_))
      refine Rn.zAL hc rfl ?_
      simp only [zAY,zAU,Nat.reduceLT,Value.bool.injEq,zEl,hn]
      (repeat (first | refine Rn.seq hc ?_ | refine Rn.skip hc ?_ | refine Rn.block hc ?_ | refine Rn.inBlock hc ?_ | refine Rn.scope hc ?_ | refine Rn.inScope hc ?_))
      refine Rn.reg hc rfl ?_
      simp only [zAY,zAU,zAT,sp_n,Nat.reduceLT,ne_eq,Nat.reduceEqDiff,zNf,gd,zAX,rops,fx,ld,idx,zAR,zOi,zEl,Nat.mul_one,tk3,eo22,hn,sq,s29,zAP hlt,hcl]
      (repeat (first | refine Rn.seq hc ?_ | refine Rn.skip hc ?_ | refine Rn.block hc ?_ | refine Rn.inBlock hc ?_ | refine Rn.scope hc ?_ | refine Rn.inScope hc ?_))
      have cF : cl G bO 1 = some (.slice wa n n) := by rw [zCV lG rfl]; rfl
      obtain ⟨F2,hF0,hF1,hFF⟩ : ∃ F : AHeap → Prop,(∀ M,F M → cl M A.next 0 = some (.int .i64 x.m)) ∧ (∀ M,F M → cl M bO 1 = some (.slice wa n n)) ∧ (∀ M,Canon.look M.objs A.next = Canon.look G.objs A.next → Canon.look M.objs bO = Canon.look G.objs bO → F M) :=
        ⟨fun M => cl M A.next 0 = some (.int .i64 x.m) ∧ cl M bO 1 = some (.slice wa n n),fun _ h => h.1,fun _ h => h.2,fun M q1 q2 => ⟨(zAB q1).trans p0,(zAB q2).trans cF⟩⟩
      have hbk : Nx G.next G (bump G 12) := Nx.bump (Nx.refl hwG _) 12
      have FB : F2 (bump G 12) := hFF _ rfl rfl
      refine Rn.drawnL hc hx noS F2 (E := [8,9]) (n := 11) (k := 12) (by kernel_rfl) (by kernel_rfl) (by rfl) (by kernel_rfl) ?_
      refine DrL.read (by first | rfl | kernel_rfl) (by rfl) (by assumption) (fun M hM => by simp only [zAY,zAT,ne_eq,Nat.reduceEqDiff,zNf,fx,fad,zAR,Nat.zero_add,zBQ,s8] <;> rfl) (by rfl) (by first | exact VQ.int _ _ | exact VQ.bool _ | exact VQ.ptr _ _ | exact VQ.slice _ _ _ | exact VQ.func (by simp [zAW,zAV,zAZ]) (by simp [zAW,zAV,zAZ]) | exact VQ.agg (by simp [zAW,zAV,zAZ]) | exact VQ.tuple (by simp [zAW,zAV,zAZ])) ?_
      refine DrL.read (by first | rfl | kernel_rfl) (by rfl) (by assumption) (fun M hM => by simp only [zAY,zAU,sp_n,Nat.reduceLT,fx,ld,zAR,tk22,hn,hF1 M hM] <;> rfl) (by rfl) (by first | exact VQ.int _ _ | exact VQ.bool _ | exact VQ.ptr _ _ | exact VQ.slice _ _ _ | exact VQ.func (by simp [zAW,zAV,zAZ]) (by simp [zAW,zAV,zAZ]) | exact VQ.agg (by simp [zAW,zAV,zAZ]) | exact VQ.tuple (by simp [zAW,zAV,zAZ])) ?_
      refine DrL.read (by first | rfl | kernel_rfl) (by rfl) (by assumption) (fun M hM => by simp only [zAY,zAU,zAT,sp_n,Nat.reduceLT,ne_eq,Nat.reduceEqDiff,zNf,fx,hn] <;> rfl) (by rfl) (by first | exact VQ.int _ _ | exact VQ.bool _ | exact VQ.ptr _ _ | exact VQ.slice _ _ _ | exact VQ.func (by simp [zAW,zAV,zAZ]) (by simp [zAW,zAV,zAZ]) | exact VQ.agg (by simp [zAW,zAV,zAZ]) | exact VQ.tuple (by simp [zAW,zAV,zAZ])) ?_
      refine DrL.read (by first | rfl | kernel_rfl) (by rfl) (by assumption) (fun M hM => by simp only [zAY,zAT,ne_eq,Nat.reduceEqDiff,zNf,fx,s7] <;> rfl) (by rfl) (by first | exact VQ.int _ _ | exact VQ.bool _ | exact VQ.ptr _ _ | exact VQ.slice _ _ _ | exact VQ.func (by simp [zAW,zAV,zAZ]) (by simp [zAW,zAV,zAZ]) | exact VQ.agg (by simp [zAW,zAV,zAZ]) | exact VQ.tuple (by simp [zAW,zAV,zAZ])) ?_
      refine DrL.read (by first | rfl | kernel_rfl) (by rfl) (by assumption) (fun M hM => by simp only [zAY,zAU,zAT,sp_n,Nat.reduceLT,ne_eq,Nat.reduceEqDiff,zNf,fx,bin_mul,hn,hwm] <;> rfl) (by rfl) (by first | exact VQ.int _ _ | exact VQ.bool _ | exact VQ.ptr _ _ | exact VQ.slice _ _ _ | exact VQ.func (by simp [zAW,zAV,zAZ]) (by simp [zAW,zAV,zAZ]) | exact VQ.agg (by simp [zAW,zAV,zAZ]) | exact VQ.tuple (by simp [zAW,zAV,zAZ])) ?_
      refine DrL.read (by first | rfl | kernel_rfl) (by rfl) (by assumption) (fun M hM => by simp only [zAY,zAT,ne_eq,Nat.reduceEqDiff,zNf,fx,fad,zAR,Nat.add_zero,zBO,s2] <;> rfl) (by rfl) (by first | exact VQ.int _ _ | exact VQ.bool _ | exact VQ.ptr _ _ | exact VQ.slice _ _ _ | exact VQ.func (by simp [zAW,zAV,zAZ]) (by simp [zAW,zAV,zAZ]) | exact VQ.agg (by simp [zAW,zAV,zAZ]) | exact VQ.tuple (by simp [zAW,zAV,zAZ])) ?_
      refine DrL.read (by first | rfl | kernel_rfl) (by rfl) (by assumption) (fun M hM => by simp only [zAY,zAU,sp_n,Nat.reduceLT,fx,ld,zAR,tk3,hn,hF0 M hM] <;> rfl) (by rfl) (by first | exact VQ.int _ _ | exact VQ.bool _ | exact VQ.ptr _ _ | exact VQ.slice _ _ _ | exact VQ.func (by simp [zAW,zAV,zAZ]) (by simp [zAW,zAV,zAZ]) | exact VQ.agg (by simp [zAW,zAV,zAZ]) | exact VQ.tuple (by simp [zAW,zAV,zAZ])) ?_
      refine DrL.read (by first | rfl | kernel_rfl) (by rfl) (by assumption) (fun M hM => by simp only [zAY,zAU,zAT,sp_n,Nat.reduceLT,ne_eq,Nat.reduceEqDiff,zNf,fx,hn,hr] <;> rfl) (by rfl) (by first | exact VQ.int _ _ | exact VQ.bool _ | exact VQ.ptr _ _ | exact VQ.slice _ _ _ | exact VQ.func (by simp [zAW,zAV,zAZ]) (by simp [zAW,zAV,zAZ]) | exact VQ.agg (by simp [zAW,zAV,zAZ]) | exact VQ.tuple (by simp [zAW,zAV,zAZ])) ?_
      refine DrL.float (by rfl) (by rfl) (by rfl) (fb22_1 (v := .int .i64 (W n)) (by simp only [zAY,zAU,sp_n,Nat.reduceLT,hn]) rfl) ?_
      obtain ⟨B2,p1,hxB2,eB2,lB2,kB2⟩ := zCP (N := 0) (Nx.refl hbk.wf 0) (b := G.next + 8) (Nat.zero_le _) (by rw [zAH]; omega) (hwG.none (by omega)) [.int .i64 (W n)] 3 1 1
      rw [zAH] at eB2
      have FM2 : F2 B2 := hFF _ (kB2 _ (by omega)) (kB2 _ (by omega))
      have gB1 : Gr2 (bump G 12) wa wb C5.next (redS W n) [] := gG.nx hwG hbk
      have gB2 : Gr2 B2 wa wb C5.next (redS W n) [] := gB1.ext (by rw [zAH]; omega) fun b' hb' => by
        by_cases hbb : b' = G.next + 8
        · exact .inl (hbb ▸ hwG.none (by omega))
        · exact .inr (kB2 _ hbb)
      obtain ⟨B3,q1,n3,w3,hg3,nx3,kp3⟩ := Gr2.pushA' hxB2.wf gB2 (a2 := some ⟨G.next + 8,0,none⟩) (c2 := 1) (b2 := G.next + 8) (x := W n) rfl (by rw [zCV lB2 rfl]; rfl) (by rw [zAI]; omega) (by omega)
      rw [zAI] at q1
      rw [redS_snoc] at hg3
      have L3 : ∀ b',b' < C5.next → Canon.look B3.objs b' = Canon.look G.objs b' := fun b' hb' => by
        rw [nx3.keep _ hb',kB2 _ (by omega)]
        rfl
      have F3 : F2 B3 := hFF _ (L3 _ (by omega)) (L3 _ hbO)
      refine DrL.eff (by rfl) (by rfl) (pd1 := [(8,⟨[.int .i64 (W n)],3,.sl 1 1⟩)]) (pd2 := []) (by kernel_rfl) (by kernel_rfl) (ms0 := [bump G 12]) (A0 := B2) (by simp only [zBS,p1]) (fun M hM => by rw [List.mem_singleton] at hM; rw [hM]; exact FB) FM2 (by rfl)
        (v := .slice (some ⟨B2.next,0,none⟩) (n + 1) (n + 1)) (A1 := B3) (zBP rfl (by simp only [zAY,zAU,zAT,sp_n,Nat.reduceLT,ne_eq,Nat.reduceEqDiff,zNf,Nat.zero_add,Nat.reduceAdd,hn,ae_apd,zBD,FK.val]; exact q1)) ?_
      refine DrL.read (by first | rfl | kernel_rfl) (by rfl) (by assumption) (fun M hM => by simp only [zAY,zAT,ne_eq,Nat.reduceEqDiff,zNf,fx,fad,zAR,Nat.zero_add,Nat.reduceAdd,zBQ,s8] <;> rfl) (by rfl) (by first | exact VQ.int _ _ | exact VQ.bool _ | exact VQ.ptr _ _ | exact VQ.slice _ _ _ | exact VQ.func (by simp [zAW,zAV,zAZ]) (by simp [zAW,zAV,zAZ]) | exact VQ.agg (by simp [zAW,zAV,zAZ]) | exact VQ.tuple (by simp [zAW,zAV,zAZ])) ?_
      have l3 : Canon.look B3.objs bO = _ := (L3 _ hbO).trans lG
      obtain ⟨B4,v1,v2⟩ := st1_upd (o := 1) (v := .slice (some ⟨B2.next,0,none⟩) (n + 1) (n + 1)) l3 rfl (by simp) rfl
      refine DrL.eff (by rfl) (by rfl) (pd1 := []) (pd2 := []) (by kernel_rfl) (by kernel_rfl) (ms0 := []) (A0 := B3) rfl (fun _ h => by cases h) F3 (by rfl) (v := undef) (A1 := B4) (zBP rfl (fx_ok (by rfl) (by simp only [zAY,zAU,zAT,sp_n,Nat.reduceLT,ne_eq,Nat.reduceEqDiff,zNf,fx,str,zAR,Nat.zero_add,Nat.reduceAdd,tk22,hn,v1]))) ?_
      refine DrL.nil ⟨by rfl,B4,by rfl,?_⟩
      (repeat (first | refine Rn.seq hc ?_ | refine Rn.skip hc ?_ | refine Rn.block hc ?_ | refine Rn.inBlock hc ?_ | refine Rn.scope hc ?_ | refine Rn.inScope hc ?_))
      refine Rn.reg hc rfl ?_
      simp only [zAY,zAS,zAU,zAT,sp_n,zAO,Nat.reduceLT,ne_eq,Nat.reduceEqDiff,zNf,gd,zAX,rops,fx,zAC,Nat.zero_add,zOi,zEl,Nat.reduceAdd,hn,s29,zBW (show n < 9223372036854775807 by omega)]
      (repeat (first | refine Rn.seq hc ?_ | refine Rn.skip hc ?_ | refine Rn.block hc ?_ | refine Rn.inBlock hc ?_ | refine Rn.scope hc ?_ | refine Rn.inScope hc ?_))
      obtain ⟨c',t,f,g,e,r1,r2,_⟩ := v2.at'
      rw [l3] at r1
      cases r1
      have hn4 := v2.next
      exact ih _ _ _ (by omega) ⟨n + 1,some ⟨B2.next,0,none⟩,wb,by omega,rfl,(v2.nx w3 (Nat.zero_le _)).wf,by omega,fun b hb hne => by rw [v2.off _ hne,L3 _ hb]; exact hkeep b hb hne,r2,hg3.ext (Nat.le_of_eq v2.next.symm) fun b' hb' => .inr (v2.off _ (by omega)),by simp only [sp_n,hn],by simp only [zAT,ne_eq,Nat.reduceEqDiff,zNf,s2],by simp only [zAT,ne_eq,Nat.reduceEqDiff,zNf,s4],by simp only [zAT,ne_eq,Nat.reduceEqDiff,zNf,s7],by simp only [zAT,ne_eq,Nat.reduceEqDiff,zNf,s8],by simp only [zAT,ne_eq,Nat.reduceEqDiff,zNf,s27],by simp only [zAT,ne_eq,Nat.reduceEqDiff,zNf,s28],by simp only [zAU,sp_n,Nat.reduceLT,hn]⟩
    · have hd : decide ((n : Int) < (x.st.length : Int)) = false := decide_eq_false (by omega)
      have hnn : n = x.st.length := by omega
      subst hnn
      clear ih
      have p2 := (zAB (o := 2) (hkeep A.next (by omega) (by omega))).trans P2
      refine Rn.reg hc rfl ?_
      simp only [zAY,gd,zAX,rops,fx,zAK,zOi,zEl,s28,s29,hd]
      (repeat (first | refine Rn.seq hc ?_ | refine Rn.skip hc ?_ | refine Rn.block hc ?_ | refine Rn.inBlock hc ?_ | refine Rn.scope hc ?_ | refine Rn.inScope hc ?_))
      refine Rn.zAL hc rfl ?_
      simp only [zAY,zAU,Nat.reduceLT,Value.bool.injEq,zEl,hn]
      (repeat (first | refine Rn.seq hc ?_ | refine Rn.skip hc ?_ | refine Rn.block hc ?_ | refine Rn.inBlock hc ?_ | refine Rn.scope hc ?_ | refine Rn.inScope hc ?_))
      refine Rn.exit hc rfl ?_
      (repeat (first | refine Rn.seq hc ?_ | refine Rn.skip hc ?_ | refine Rn.block hc ?_ | refine Rn.inBlock hc ?_ | refine Rn.scope hc ?_ | refine Rn.inScope hc ?_))
      refine Rn.reg hc rfl ?_
      simp only [zAY,zAS,zAU,zAT,sp_n,Nat.reduceLT,ne_eq,Nat.reduceEqDiff,zNf,gd,zAX,rops,fx,ld,fad,lng,zAR,Nat.zero_add,zOi,zEl,tk22,zBE,un22,hn,s2,p2]
      (repeat (first | refine Rn.seq hc ?_ | refine Rn.skip hc ?_ | refine Rn.block hc ?_ | refine Rn.inBlock hc ?_ | refine Rn.scope hc ?_ | refine Rn.inScope hc ?_))
      refine Rn.loopI hc (I := fun k s G => ∃ n wb,n ≤ x.ro.length ∧ k = x.ro.length - n ∧ WF G ∧ C5.next ≤ G.next ∧ (∀ b,b < C5.next → b ≠ bO → Canon.look G.objs b = Canon.look C5.objs b) ∧ Canon.look G.objs bO = some ⟨.cells #[.int .i64 x.m,.slice wa x.st.length x.st.length,.slice wb n n] 24,false,0⟩ ∧ Gr2 G wa wb C5.next (redS W x.st.length) (redR W x.st.length n) ∧ s.n = 68 ∧ sget s 2 = .pointer (some ⟨A.next,0,none⟩) ∧ sget s 4 = .pointer (some ⟨bR,0,none⟩) ∧ sget s 7 = .int .i64 kk ∧ sget s 8 = .pointer (some ⟨bO,0,none⟩) ∧ sget s 46 = .slice x.ra x.ro.length x.rc ∧ sget s 47 = .int .i64 (x.ro.length : Int) ∧ sget s 48 = .int .i64 (n : Int))
        (n := x.ro.length) ⟨0,wb,by omega,rfl,hwG,hnG,hkeep,lG,gG,by simp only [sp_n,hn],by simp only [zAT,ne_eq,Nat.reduceEqDiff,zNf,s2],by simp only [zAT,ne_eq,Nat.reduceEqDiff,zNf,s4],by simp only [zAT,ne_eq,Nat.reduceEqDiff,zNf,s7],by simp only [zAT,ne_eq,Nat.reduceEqDiff,zNf,s8],by simp only [zAU,zAT,sp_n,Nat.reduceLT,ne_eq,Nat.reduceEqDiff,zNf,hn],by simp only [zAU,zAT,sp_n,Nat.reduceLT,ne_eq,Nat.reduceEqDiff,zNf,hn],by simp only [zAU,sp_n,Nat.reduceLT,hn]; rfl⟩ ?_
      clear hn s2 s4 s7 s8 s27 s28 s29 s hwG hnG hkeep lG gG p0 p2 nAG hAG wb G hd
      rintro k' s G ⟨n,wb,hnH,rfl,hwG,hnG,hkeep,lG,gG,hn,s2,s4,s7,s8,s46,s47,s48⟩ ih
      have hAG : Nx A.next A G := ⟨by have := hA5.next; omega,hwG,fun b hb => (hkeep b (by omega) (by omega)).trans (hA5.keep b hb)⟩
      have p0 := (zAB (o := 0) (hkeep A.next (by omega) (by omega))).trans P0
      have nAG : A.next < G.next := by omega
      (repeat (first | refine Rn.seq hc ?_ | refine Rn.skip hc ?_ | refine Rn.block hc ?_ | refine Rn.inBlock hc ?_ | refine Rn.scope hc ?_ | refine Rn.inScope hc ?_))
      by_cases hlt : n < x.ro.length
      · have hd : decide ((n : Int) < (x.ro.length : Int)) = true := decide_eq_true (by omega)
        obtain ⟨bb,oo,hbe,-,hb1,hcl⟩ := (hoC.2.1 n hlt)
        have hcl : cl G bb (oo + n) = some (.int .i64 (x.s (x.st.length + n))) := by
          obtain ⟨bb2,oo2,hbe2,-,hb2,hcl2⟩ := (show Ints A _ 0 A.next _ from hox.2.1) n hlt
          rw [hbe] at hbe2
          cases hbe2
          rw [hAG.cl hb2,hcl2]
          exact congrArg (fun z => some (Value.int .i64 z)) (atL_ro hlt).symm
        have sq := s46
        rw [hbe] at sq
        have hlx := lx (x.st.length + n)
        have hmul := mul_lim hlx.1 (by omega) hk.1 (by omega)
        have hwm : IntKind.i64.wrap (x.s (x.st.length + n) * kk) = x.s (x.st.length + n) * kk := IntWalk.i64_in _ ⟨by omega,by omega⟩
        have hr : ∀ M,bin Try.prog .rem 3 (.int .i64 (x.s (x.st.length + n) * kk)) (.int .i64 x.m) M = some (.int .i64 (W (x.st.length + n)),M) := fun M => by
          rw [← hWk]
          exact zBB _ _ _ _ (by omega)
        refine Rn.reg hc rfl ?_
        simp only [zAY,gd,zAX,rops,fx,zAK,zOi,zEl,s47,s48,hd]
        (repeat (first | refine Rn.seq hc ?_ | refine Rn.skip hc ?_ | refine Rn.block hc ?_ | refine Rn.inBlock hc ?_ | refine Rn.scope hc ?_ | refine Rn.inScope hc ?_))
        refine Rn.zAL hc rfl ?_
        simp only [zAY,zAU,Nat.reduceLT,Value.bool.injEq,zEl,hn]
        (repeat (first | refine Rn.seq hc ?_ | refine Rn.skip hc ?_ | refine Rn.block hc ?_ | refine Rn.inBlock hc ?_ | refine Rn.scope hc ?_ | refine Rn.inScope hc ?_))
        refine Rn.reg hc rfl ?_
        simp only [zAY,zAU,zAT,sp_n,Nat.reduceLT,ne_eq,Nat.reduceEqDiff,zNf,gd,zAX,rops,fx,ld,idx,zAR,zOi,zEl,Nat.mul_one,tk3,eo22,hn,sq,s48,zAP hlt,hcl]
        (repeat (first | refine Rn.seq hc ?_ | refine Rn.skip hc ?_ | refine Rn.block hc ?_ | refine Rn.inBlock hc ?_ | refine Rn.scope hc ?_ | refine Rn.inScope hc ?_))
        have cF : cl G bO 2 = some (.slice wb n n) := by rw [zCV lG rfl]; rfl
        obtain ⟨F2,hF0,hF1,hFF⟩ : ∃ F : AHeap → Prop,(∀ M,F M → cl M A.next 0 = some (.int .i64 x.m)) ∧ (∀ M,F M → cl M bO 2 = some (.slice wb n n)) ∧ (∀ M,Canon.look M.objs A.next = Canon.look G.objs A.next → Canon.look M.objs bO = Canon.look G.objs bO → F M) :=
          ⟨fun M => cl M A.next 0 = some (.int .i64 x.m) ∧ cl M bO 2 = some (.slice wb n n),fun _ h => h.1,fun _ h => h.2,fun M q1 q2 => ⟨(zAB q1).trans p0,(zAB q2).trans cF⟩⟩
        have hbk : Nx G.next G (bump G 12) := Nx.bump (Nx.refl hwG _) 12
        have FB : F2 (bump G 12) := hFF _ rfl rfl
        refine Rn.drawnL hc hx noS F2 (E := [8,9]) (n := 11) (k := 12) (by kernel_rfl) (by kernel_rfl) (by rfl) (by kernel_rfl) ?_
        refine DrL.read (by first | rfl | kernel_rfl) (by rfl) (by assumption) (fun M hM => by simp only [zAY,zAT,ne_eq,Nat.reduceEqDiff,zNf,fx,fad,zAR,Nat.zero_add,zBE,s8] <;> rfl) (by rfl) (by first | exact VQ.int _ _ | exact VQ.bool _ | exact VQ.ptr _ _ | exact VQ.slice _ _ _ | exact VQ.func (by simp [zAW,zAV,zAZ]) (by simp [zAW,zAV,zAZ]) | exact VQ.agg (by simp [zAW,zAV,zAZ]) | exact VQ.tuple (by simp [zAW,zAV,zAZ])) ?_
        refine DrL.read (by first | rfl | kernel_rfl) (by rfl) (by assumption) (fun M hM => by simp only [zAY,zAU,sp_n,Nat.reduceLT,fx,ld,zAR,tk22,hn,hF1 M hM] <;> rfl) (by rfl) (by first | exact VQ.int _ _ | exact VQ.bool _ | exact VQ.ptr _ _ | exact VQ.slice _ _ _ | exact VQ.func (by simp [zAW,zAV,zAZ]) (by simp [zAW,zAV,zAZ]) | exact VQ.agg (by simp [zAW,zAV,zAZ]) | exact VQ.tuple (by simp [zAW,zAV,zAZ])) ?_
        refine DrL.read (by first | rfl | kernel_rfl) (by rfl) (by assumption) (fun M hM => by simp only [zAY,zAU,zAT,sp_n,Nat.reduceLT,ne_eq,Nat.reduceEqDiff,zNf,fx,hn] <;> rfl) (by rfl) (by first | exact VQ.int _ _ | exact VQ.bool _ | exact VQ.ptr _ _ | exact VQ.slice _ _ _ | exact VQ.func (by simp [zAW,zAV,zAZ]) (by simp [zAW,zAV,zAZ]) | exact VQ.agg (by simp [zAW,zAV,zAZ]) | exact VQ.tuple (by simp [zAW,zAV,zAZ])) ?_
        refine DrL.read (by first | rfl | kernel_rfl) (by rfl) (by assumption) (fun M hM => by simp only [zAY,zAT,ne_eq,Nat.reduceEqDiff,zNf,fx,s7] <;> rfl) (by rfl) (by first | exact VQ.int _ _ | exact VQ.bool _ | exact VQ.ptr _ _ | exact VQ.slice _ _ _ | exact VQ.func (by simp [zAW,zAV,zAZ]) (by simp [zAW,zAV,zAZ]) | exact VQ.agg (by simp [zAW,zAV,zAZ]) | exact VQ.tuple (by simp [zAW,zAV,zAZ])) ?_
        refine DrL.read (by first | rfl | kernel_rfl) (by rfl) (by assumption) (fun M hM => by simp only [zAY,zAU,zAT,sp_n,Nat.reduceLT,ne_eq,Nat.reduceEqDiff,zNf,fx,bin_mul,hn,hwm] <;> rfl) (by rfl) (by first | exact VQ.int _ _ | exact VQ.bool _ | exact VQ.ptr _ _ | exact VQ.slice _ _ _ | exact VQ.func (by simp [zAW,zAV,zAZ]) (by simp [zAW,zAV,zAZ]) | exact VQ.agg (by simp [zAW,zAV,zAZ]) | exact VQ.tuple (by simp [zAW,zAV,zAZ])) ?_
        refine DrL.read (by first | rfl | kernel_rfl) (by rfl) (by assumption) (fun M hM => by simp only [zAY,zAT,ne_eq,Nat.reduceEqDiff,zNf,fx,fad,zAR,Nat.add_zero,zBO,s2] <;> rfl) (by rfl) (by first | exact VQ.int _ _ | exact VQ.bool _ | exact VQ.ptr _ _ | exact VQ.slice _ _ _ | exact VQ.func (by simp [zAW,zAV,zAZ]) (by simp [zAW,zAV,zAZ]) | exact VQ.agg (by simp [zAW,zAV,zAZ]) | exact VQ.tuple (by simp [zAW,zAV,zAZ])) ?_
        refine DrL.read (by first | rfl | kernel_rfl) (by rfl) (by assumption) (fun M hM => by simp only [zAY,zAU,sp_n,Nat.reduceLT,fx,ld,zAR,tk3,hn,hF0 M hM] <;> rfl) (by rfl) (by first | exact VQ.int _ _ | exact VQ.bool _ | exact VQ.ptr _ _ | exact VQ.slice _ _ _ | exact VQ.func (by simp [zAW,zAV,zAZ]) (by simp [zAW,zAV,zAZ]) | exact VQ.agg (by simp [zAW,zAV,zAZ]) | exact VQ.tuple (by simp [zAW,zAV,zAZ])) ?_
        refine DrL.read (by first | rfl | kernel_rfl) (by rfl) (by assumption) (fun M hM => by simp only [zAY,zAU,zAT,sp_n,Nat.reduceLT,ne_eq,Nat.reduceEqDiff,zNf,fx,hn,hr] <;> rfl) (by rfl) (by first | exact VQ.int _ _ | exact VQ.bool _ | exact VQ.ptr _ _ | exact VQ.slice _ _ _ | exact VQ.func (by simp [zAW,zAV,zAZ]) (by simp [zAW,zAV,zAZ]) | exact VQ.agg (by simp [zAW,zAV,zAZ]) | exact VQ.tuple (by simp [zAW,zAV,zAZ])) ?_
        refine DrL.float (by rfl) (by rfl) (by rfl) (fb22_1 (v := .int .i64 (W (x.st.length + n))) (by simp only [zAY,zAU,sp_n,Nat.reduceLT,hn]) rfl) ?_
        obtain ⟨B2,p1,hxB2,eB2,lB2,kB2⟩ := zCP (N := 0) (Nx.refl hbk.wf 0) (b := G.next + 8) (Nat.zero_le _) (by rw [zAH]; omega) (hwG.none (by omega)) [.int .i64 (W (x.st.length + n))] 3 1 1
        rw [zAH] at eB2
        have FM2 : F2 B2 := hFF _ (kB2 _ (by omega)) (kB2 _ (by omega))
        have gB1 : Gr2 (bump G 12) wa wb C5.next (redS W x.st.length) (redR W x.st.length n) := gG.nx hwG hbk
        have gB2 : Gr2 B2 wa wb C5.next (redS W x.st.length) (redR W x.st.length n) := gB1.ext (by rw [zAH]; omega) fun b' hb' => by
          by_cases hbb : b' = G.next + 8
          · exact .inl (hbb ▸ hwG.none (by omega))
          · exact .inr (kB2 _ hbb)
        obtain ⟨B3,q1,n3,w3,hg3,nx3,kp3⟩ := Gr2.pushB' hxB2.wf gB2 (a2 := some ⟨G.next + 8,0,none⟩) (c2 := 1) (b2 := G.next + 8) (x := W (x.st.length + n)) rfl (by rw [zCV lB2 rfl]; rfl) (by rw [zAF]; omega)
        rw [zAF] at q1
        rw [redR_snoc] at hg3
        have L3 : ∀ b',b' < C5.next → Canon.look B3.objs b' = Canon.look G.objs b' := fun b' hb' => by
          rw [nx3.keep _ hb',kB2 _ (by omega)]
          rfl
        have F3 : F2 B3 := hFF _ (L3 _ (by omega)) (L3 _ hbO)
        refine DrL.eff (by rfl) (by rfl) (pd1 := [(8,⟨[.int .i64 (W (x.st.length + n))],3,.sl 1 1⟩)]) (pd2 := []) (by kernel_rfl) (by kernel_rfl) (ms0 := [bump G 12]) (A0 := B2) (by simp only [zBS,p1]) (fun M hM => by rw [List.mem_singleton] at hM; rw [hM]; exact FB) FM2 (by rfl)
          (v := .slice (some ⟨B2.next,0,none⟩) (n + 1) (n + 1)) (A1 := B3) (zBP rfl (by simp only [zAY,zAU,zAT,sp_n,Nat.reduceLT,ne_eq,Nat.reduceEqDiff,zNf,Nat.zero_add,Nat.reduceAdd,hn,ae_apd,zBD,FK.val]; exact q1)) ?_
        refine DrL.read (by first | rfl | kernel_rfl) (by rfl) (by assumption) (fun M hM => by simp only [zAY,zAT,ne_eq,Nat.reduceEqDiff,zNf,fx,fad,zAR,Nat.zero_add,Nat.reduceAdd,zBE,s8] <;> rfl) (by rfl) (by first | exact VQ.int _ _ | exact VQ.bool _ | exact VQ.ptr _ _ | exact VQ.slice _ _ _ | exact VQ.func (by simp [zAW,zAV,zAZ]) (by simp [zAW,zAV,zAZ]) | exact VQ.agg (by simp [zAW,zAV,zAZ]) | exact VQ.tuple (by simp [zAW,zAV,zAZ])) ?_
        have l3 : Canon.look B3.objs bO = _ := (L3 _ hbO).trans lG
        obtain ⟨B4,v1,v2⟩ := st1_upd (o := 2) (v := .slice (some ⟨B2.next,0,none⟩) (n + 1) (n + 1)) l3 rfl (by simp) rfl
        refine DrL.eff (by rfl) (by rfl) (pd1 := []) (pd2 := []) (by kernel_rfl) (by kernel_rfl) (ms0 := []) (A0 := B3) rfl (fun _ h => by cases h) F3 (by rfl) (v := undef) (A1 := B4) (zBP rfl (fx_ok (by rfl) (by simp only [zAY,zAU,zAT,sp_n,Nat.reduceLT,ne_eq,Nat.reduceEqDiff,zNf,fx,str,zAR,Nat.zero_add,Nat.reduceAdd,tk22,hn,v1]))) ?_
        refine DrL.nil ⟨by rfl,B4,by rfl,?_⟩
        (repeat (first | refine Rn.seq hc ?_ | refine Rn.skip hc ?_ | refine Rn.block hc ?_ | refine Rn.inBlock hc ?_ | refine Rn.scope hc ?_ | refine Rn.inScope hc ?_))
        refine Rn.reg hc rfl ?_
        simp only [zAY,zAS,zAU,zAT,sp_n,zAO,Nat.reduceLT,ne_eq,Nat.reduceEqDiff,zNf,gd,zAX,rops,fx,zAC,Nat.zero_add,zOi,zEl,Nat.reduceAdd,hn,s48,zBW (show n < 9223372036854775807 by omega)]
        (repeat (first | refine Rn.seq hc ?_ | refine Rn.skip hc ?_ | refine Rn.block hc ?_ | refine Rn.inBlock hc ?_ | refine Rn.scope hc ?_ | refine Rn.inScope hc ?_))
        obtain ⟨c',t,f,g,e,r1,r2,_⟩ := v2.at'
        rw [l3] at r1
        cases r1
        have hn4 := v2.next
        exact ih _ _ _ (by omega) ⟨n + 1,some ⟨B2.next,0,none⟩,by omega,rfl,(v2.nx w3 (Nat.zero_le _)).wf,by omega,fun b hb hne => by rw [v2.off _ hne,L3 _ hb]; exact hkeep b hb hne,r2,hg3.ext (Nat.le_of_eq v2.next.symm) fun b' hb' => .inr (v2.off _ (by omega)),by simp only [sp_n,hn],by simp only [zAT,ne_eq,Nat.reduceEqDiff,zNf,s2],by simp only [zAT,ne_eq,Nat.reduceEqDiff,zNf,s4],by simp only [zAT,ne_eq,Nat.reduceEqDiff,zNf,s7],by simp only [zAT,ne_eq,Nat.reduceEqDiff,zNf,s8],by simp only [zAT,ne_eq,Nat.reduceEqDiff,zNf,s46],by simp only [zAT,ne_eq,Nat.reduceEqDiff,zNf,s47],by simp only [zAU,sp_n,Nat.reduceLT,hn]⟩
      · have hd : decide ((n : Int) < (x.ro.length : Int)) = false := decide_eq_false (by omega)
        have hnn : n = x.ro.length := by omega
        subst hnn
        clear ih
        refine Rn.reg hc rfl ?_
        simp only [zAY,gd,zAX,rops,fx,zAK,zOi,zEl,s47,s48,hd]
        (repeat (first | refine Rn.seq hc ?_ | refine Rn.skip hc ?_ | refine Rn.block hc ?_ | refine Rn.inBlock hc ?_ | refine Rn.scope hc ?_ | refine Rn.inScope hc ?_))
        refine Rn.zAL hc rfl ?_
        simp only [zAY,zAU,Nat.reduceLT,Value.bool.injEq,zEl,hn]
        (repeat (first | refine Rn.seq hc ?_ | refine Rn.skip hc ?_ | refine Rn.block hc ?_ | refine Rn.inBlock hc ?_ | refine Rn.scope hc ?_ | refine Rn.inScope hc ?_))
        refine Rn.exit hc rfl ?_
        (repeat (first | refine Rn.seq hc ?_ | refine Rn.skip hc ?_ | refine Rn.block hc ?_ | refine Rn.inBlock hc ?_ | refine Rn.scope hc ?_ | refine Rn.inScope hc ?_))
        have g0 : cl G bO 0 = some (.int .i64 x.m) := by rw [zCV lG rfl]; rfl
        have g1 : cl G bO 1 = some (.slice wa x.st.length x.st.length) := by rw [zCV lG rfl]; rfl
        have g2 : cl G bO 2 = some (.slice wb x.ro.length x.ro.length) := by rw [zCV lG rfl]; rfl
        have lGR : Canon.look G.objs bR = _ := (hkeep _ (by omega) (by omega)).trans lR
        have hg2 := gG.snd
        have hlr := result_ref hAG.wf (m := x.m) (sc := x.st.length) (rc := x.ro.length) (gG.g1.ints.mono (Nat.zero_le _) (Nat.le_refl _)) (hg2.ints.mono (Nat.zero_le _) (Nat.le_refl _)) (by rw [zAI]; omega) (by rw [zAF]; omega) (by rw [zAF]; exact m3) (hg2.sl.mono (Nat.zero_le _)) (by rw [zAF]; exact Nat.le_refl _)
        rw [atL_redF hPer] at hlr
        simp only [zAI,zAF] at hlr
        refine Rn.region hc fun K hK => ?_
        refine Wo.run hc 1 rfl rfl rfl ?_
        simp (maxSteps := 2000000) only [List.drop_zero,List.take_succ_cons,List.take_zero,zAY,zAT,ne_eq,Nat.reduceEqDiff,not_false_eq_true,gd,zAX,rops,fx,ld,zAR,cls,Nat.zero_add,Option.some.injEq,exists_eq_left',Nat.reduceAdd,tk24,s8,g0,g1,g2]
        refine Wo.call hc (by rfl) (by rfl) ⟨by rfl,by rfl⟩ (xs := [.agg #[.int .i64 x.m,.slice wa x.st.length x.st.length,.slice wb x.ro.length x.ro.length]]) (by rfl) (by rfl) (by simp only [zAY,zAU,sp_n,Nat.reduceLT,List.map_cons,List.map_nil,List.nil_append,List.append_nil,hn]) (Con.mono (hlr) ?_)
        rintro w C3 ⟨a',p',hred',_,_,hq⟩
        obtain ⟨mm,n1,n2,ee,p1,c1,p2,c2,rfl,D',q1,g0,g1,g2,hoff,hT⟩ := TldR.fin (b := bR) hAG (by omega) (by omega) lGR (tldR_q (m := x.m) hred' hq)
        refine Wo.run hc 4 rfl rfl rfl ?_
        simp (maxSteps := 2000000) only [List.drop_zero,List.drop_succ_cons,List.take_succ_cons,List.take_zero,zAY,zAU,zAT,sp_n,zAO,Nat.reduceLT,ne_eq,Nat.reduceEqDiff,not_false_eq_true,gd,zAX,rops,fx,str,ext,zAR,List.getElem?_toArray,List.getElem?_cons_zero,List.getElem?_cons_succ,Nat.zero_add,Option.some.injEq,exists_eq_left',Nat.reduceAdd,tk24,hn,s4,ext,q1,List.size_toArray,List.length_cons,List.length_nil,Nat.beq_refl]
        refine Wo.done hc rfl (hK _ _ ?_)
        clear hK
        (repeat (first | refine Rn.seq hc ?_ | refine Rn.skip hc ?_ | refine Rn.block hc ?_ | refine Rn.inBlock hc ?_ | refine Rn.scope hc ?_ | refine Rn.inScope hc ?_))
        refine Rn.ret (zBR rfl (v := .agg #[.int .i64 mm,.slice p1 n1 c1,.slice p2 n2 c2]) ?_ ?_)
        · simp only [zAT,ne_eq,Nat.reduceEqDiff,zNf,ld,zAR,cls,Nat.zero_add,Nat.reduceAdd,tk24,s4,g0,g1,g2]
        · simp only [zAU,sp_n,Nat.reduceLT,hn]
          exact hT
  · have hd : (!decide (x.err = 0)) = true := by rw [decide_eq_false he]; rfl
    obtain ⟨D,q1,g0,g1,g2,hxD⟩ := err_fin hx04 (by omega) (by omega) l4
    refine Rn.reg hc rfl ?_
    simp only [zAY,zAS,zAU,sp_n,Nat.reduceLT,gd,zAX,rops,fx,zAD,zOi,zEl,hd]
    (repeat (first | refine Rn.seq hc ?_ | refine Rn.skip hc ?_ | refine Rn.block hc ?_ | refine Rn.inBlock hc ?_ | refine Rn.scope hc ?_ | refine Rn.inScope hc ?_))
    refine Rn.zAL hc rfl ?_
    simp only [zAY,zAU,sp_n,Nat.reduceLT,Value.bool.injEq,zEl]
    (repeat (first | refine Rn.seq hc ?_ | refine Rn.skip hc ?_ | refine Rn.block hc ?_ | refine Rn.inBlock hc ?_ | refine Rn.scope hc ?_ | refine Rn.inScope hc ?_))
    refine Rn.reg hc rfl ?_
    simp only [zAY,zAU,zAT,sp_n,zAO,Nat.reduceLT,ne_eq,Nat.reduceEqDiff,zNf,gd,zAX,rops,fx,str,zAR,Nat.zero_add,zOi,zEl,Nat.reduceAdd,tk24,bd24_z,q1,List.size_toArray,List.length_cons,List.length_nil,Nat.beq_refl]
    (repeat (first | refine Rn.seq hc ?_ | refine Rn.skip hc ?_ | refine Rn.block hc ?_ | refine Rn.inBlock hc ?_ | refine Rn.scope hc ?_ | refine Rn.inScope hc ?_))
    refine Rn.ret (zBR rfl (v := .agg #[.int .i64 0,.slice none 0 0,.slice none 0 0]) ?_ ?_)
    · simp only [zAU,zAT,sp_n,Nat.reduceLT,ne_eq,Nat.reduceEqDiff,zNf,ld,zAR,cls,Nat.zero_add,Nat.reduceAdd,tk24,g0,g1,g2]
    · simp only [zAU,sp_n,Nat.reduceLT]
      exact tldR_err he hxD
end Go.Proofs.Ytdaljohmfnfgiaa
namespace Go.Proofs.Ytdaljohmfnfgiaa
open Go Go.RowKit Go.Proofs.Ytdaljohmfnfgiaa.Canon
theorem nrm_mod (n : Int) {m : Int} (h : 0 < m) : nrm n m = n % m := by
  unfold nrm
  have h1 := tmod_lim n h
  rw [Int.tmod_eq_emod_of_nonneg (by omega)]
  have e := Int.mul_tdiv_add_tmod n m
  have h2 : n.tmod m + m = n + m * (1 - n.tdiv m) := by
    rw [Int.mul_sub,Int.mul_one]
    omega
  rw [h2,Int.add_mul_emod_self_left]
def scB (m : Int) (a : Nat → Int) (step r : Nat) : Nat → Int
  | 0 => 0
  | q + 1 => (scB m a step r q + a (r + q * step)) % m
def scY (m : Int) (a : Nat → Int) (step n : Nat) : Int := scB m a step (n % step) (n / step)
def scn (m : Int) (a : Nat → Int) (step n : Nat) : Int := scY m a step (n + step)
section
variable {m : Int} {a : Nat → Int} {step : Nat}
theorem scY_zero {n : Nat} (h : n < step) : scY m a step n = 0 := by
  unfold scY
  rw [Nat.div_eq_of_lt h]
  rfl
theorem scY_step (hs : 0 < step) (n : Nat) : scY m a step (n + step) = (scY m a step n + a n) % m := by
  unfold scY
  rw [Nat.add_mod_right,Nat.add_div_right _ hs]
  show (scB m a step (n % step) (n / step) + a (n % step + n / step * step)) % m = _
  rw [Nat.mul_comm,Nat.mod_add_div]
theorem scY_lim (hm : 0 < m) (n : Nat) : 0 ≤ scY m a step n ∧ scY m a step n < m := by
  unfold scY
  cases n / step with
  | zero => exact ⟨Int.le_refl _,hm⟩
  | succ q => exact ⟨Int.emod_nonneg _ (by omega),Int.emod_lt_of_pos _ hm⟩
theorem scY_self (hm : 0 < m) (n : Nat) : scY m a step n % m = scY m a step n := Int.emod_eq_of_lt (scY_lim hm n).1 (scY_lim hm n).2
theorem scn_eq (hs : 0 < step) (n : Nat) : scn m a step n = (scY m a step n + a n) % m := scY_step hs n
def scD (m : Int) (a : Nat → Int) (step B n : Nat) : Int := (scY m a step (n + B) - scY m a step n) % m
variable {B N : Nat}
theorem scD_per (hs : 0 < step) (hP : ∀ n,N ≤ n → a (n + B) = a n) : Per (scD m a step B) N step := ⟨hs,fun n hn => by
  unfold scD
  rw [show n + step + B = n + B + step by omega,scY_step hs,scY_step hs,hP n hn,← Int.sub_emod]
  congr 1
  omega⟩
theorem scY_next (hm : 0 < m) (n : Nat) : scY m a step (n + B) = (scY m a step n + scD m a step B n) % m := by
  unfold scD
  rw [Int.add_comm,Int.emod_add_emod,Int.sub_add_cancel,scY_self hm]
theorem scY_times (hm : 0 < m) (hs : 0 < step) (hB : step ∣ B) (hP : ∀ n,N ≤ n → a (n + B) = a n) {n : Nat} (hn : N ≤ n) : ∀ k : Nat,scY m a step (n + k * B) = (scY m a step n + (k : Int) * scD m a step B n) % m
  | 0 => by simp [scY_self hm]
  | k + 1 => by
    have hc : scD m a step B (n + k * B) = scD m a step B n := by
      obtain ⟨c,rfl⟩ := hB
      refine (scD_per hs hP).same (by omega) hn ?_
      rw [show k * (step * c) = step * (k * c) by rw [Nat.mul_left_comm],Nat.add_mul_mod_self_left]
    rw [show n + (k + 1) * B = n + k * B + B by rw [Nat.succ_mul]; omega,scY_next hm,hc,scY_times hm hs hB hP hn k,Int.emod_add_emod]
    congr 1
    rw [Int.natCast_add,Int.add_mul,Int.natCast_one,Int.one_mul]
    omega
theorem scD_lim (hm : 0 < m) (n : Nat) : 0 ≤ scD m a step B n ∧ scD m a step B n < m := ⟨Int.emod_nonneg _ (by omega),Int.emod_lt_of_pos _ hm⟩
end
def ordN (m d : Nat) : Nat := m / Nat.gcd m d
theorem ordN_dvd {m d t : Nat} (hm : 0 < m) : ordN m d ∣ t ↔ m ∣ t * d := by
  unfold ordN
  rw [Nat.div_dvd_iff_dvd_mul (Nat.gcd_dvd_left m d) (Nat.gcd_pos_of_pos_left _ hm)]
  constructor
  · intro h
    refine Nat.dvd_trans h ?_
    rw [Nat.mul_comm t d]
    exact Nat.mul_dvd_mul_right (Nat.gcd_dvd_right m d) t
  · intro h
    have h1 : m ∣ t * m := Nat.dvd_mul_left _ _
    have h2 := Nat.dvd_gcd h1 h
    rw [Nat.gcd_mul_left] at h2
    rw [Nat.mul_comm]
    exact h2
theorem ordN_pos {m d : Nat} (hm : 0 < m) : 0 < ordN m d := Nat.div_pos (Nat.le_of_dvd hm (Nat.gcd_dvd_left _ _)) (Nat.gcd_pos_of_pos_left _ hm)
def dC (m : Nat) (a : Nat → Int) (step B N i : Nat) : Nat := (scD (m : Int) a step B (N * step + i)).toNat
section
variable {m : Nat} {a : Nat → Int} {step B N : Nat}
theorem dC_eq (hm : 0 < m) (hs : 0 < step) (hP : ∀ n,N ≤ n → a (n + B) = a n) {n : Nat} (hn : N ≤ n) : ((dC m a step B N (n % step) : Nat) : Int) = scD (m : Int) a step B n := by
  unfold dC
  rw [Int.toNat_of_nonneg (scD_lim (by omega) _).1]
  have h1 : N * 1 ≤ N * step := Nat.mul_le_mul_left _ hs
  refine (scD_per hs hP).same (by omega) hn ?_
  rw [Nat.mul_comm,Nat.mul_add_mod,Nat.mod_mod]
theorem scn_per (hm : 0 < m) (hs : 0 < step) (hB0 : 0 < B) (hB : step ∣ B) (hP : ∀ n,N ≤ n → a (n + B) = a n) {t : Nat} (ht0 : 0 < t) (ht : ∀ i,i < step → ordN m (dC m a step B N i) ∣ t) : Per (scn (m : Int) a step) N (t * B) := ⟨Nat.mul_pos ht0 hB0,fun n hn => by
  unfold scn
  have h1 := ht _ (Nat.mod_lt (n + step) hs)
  rw [ordN_dvd hm] at h1
  have h2 : (m : Int) ∣ (t : Int) * scD (m : Int) a step B (n + step) := by
    rw [← dC_eq hm hs hP (show N ≤ n + step by omega),← Int.natCast_mul,Int.natCast_dvd_natCast]
    exact h1
  rw [show n + t * B + step = n + step + t * B by omega,scY_times (by omega) hs hB hP (by omega),Int.add_emod,Int.emod_eq_zero_of_dvd h2,Int.add_zero,Int.emod_emod,scY_self (by omega)]⟩
theorem scn_per_m (hm : 0 < m) (hs : 0 < step) (hB0 : 0 < B) (hB : step ∣ B) (hP : ∀ n,N ≤ n → a (n + B) = a n) : Per (scn (m : Int) a step) N (m * B) :=
  scn_per hm hs hB0 hB hP hm fun i _ => (ordN_dvd hm).2 (Nat.dvd_mul_right _ _)
theorem ord_of_per (hm : 0 < m) (hs : 0 < step) (hB : step ∣ B) (hP : ∀ n,N ≤ n → a (n + B) = a n) {M k : Nat} (h : Per (scn (m : Int) a step) M (k * B)) : ∀ i,i < step → ordN m (dC m a step B N i) ∣ k := fun i hi => by
  rw [ordN_dvd hm]
  have h1 : (N + M) * 1 ≤ (N + M) * step := Nat.mul_le_mul_left _ hs
  have e1 : (((N + M) * step + i) + step) % step = i := by rw [Nat.add_mod_right,Nat.mul_comm,Nat.mul_add_mod,Nat.mod_eq_of_lt hi]
  have h2 := h.per ((N + M) * step + i) (by omega)
  unfold scn at h2
  rw [show (N + M) * step + i + k * B + step = (N + M) * step + i + step + k * B by omega,scY_times (by omega) hs hB hP (show N ≤ (N + M) * step + i + step by omega)] at h2
  have h3 : ((k : Int) * scD (m : Int) a step B ((N + M) * step + i + step)) % (m : Int) = 0 := by
    have h4 := Int.sub_emod (scY (m : Int) a step ((N + M) * step + i + step) + (k : Int) * scD (m : Int) a step B ((N + M) * step + i + step)) (scY (m : Int) a step ((N + M) * step + i + step)) (m : Int)
    rw [h2,scY_self (by omega),Int.sub_self,Int.zero_emod] at h4
    rw [← h4]
    congr 1
    omega
  have h5 := Int.dvd_of_emod_eq_zero h3
  rw [← dC_eq hm hs hP (show N ≤ (N + M) * step + i + step by omega),e1,← Int.natCast_mul,Int.natCast_dvd_natCast] at h5
  exact h5
end
theorem red_of_per {s : Nat → Int} {N d : Nat} (h : Per s N d) : ∃ a p,Red s a p ∧ a ≤ N ∧ p ≤ d := by
  obtain ⟨a,p,hr,ha,hp,_⟩ := red_exists (redS s N) (ro := redR s N d) (by rw [zAF]; exact h.pos)
  rw [atL_redF h] at hr
  rw [zAI] at ha
  rw [zAF] at hp
  exact ⟨a,p,hr,ha,hp⟩
theorem tp_long {m : Int} {s : Nat → Int} {N d : Nat} (h : Per s N d) (hl : ∀ a p,Red s a p → 120 < p) : TP 0 m s 0 [] [] 11 := by
  obtain ⟨a,p,hr,_,_⟩ := red_of_per h
  exact .inr ⟨rfl,a,p,hr,.inl ⟨.inl (hl a p hr),rfl,rfl,rfl,rfl⟩⟩
section
variable {m : Nat} {a : Nat → Int} {step B N : Nat}
theorem long_run (hm : 0 < m) (hs : 0 < step) (hB0 : 0 < B) (hB : step ∣ B) (hP : ∀ n,N ≤ n → a (n + B) = a n) {i : Nat} (hi : i ≤ step) (hl : 120 < lcmF (fun i => ordN m (dC m a step B N i)) i) {p b : Nat} (hr : Red (scn (m : Int) a step) b p) : 120 < p := by
  have h1 : Per (scn (m : Int) a step) b (p * B) := by
    rw [Nat.mul_comm]
    exact hr.per.mul hB0
  have h2 := ord_of_per hm hs hB hP h1
  have h3 : lcmF (fun i => ordN m (dC m a step B N i)) i ∣ p := lcmF_least fun j hj => h2 j (by omega)
  have := Nat.le_of_dvd hr.per.pos h3
  omega
end
def sumA (a : Nat → Int) (step n : Nat) : Nat → Int
  | 0 => 0
  | q + 1 => sumA a step n q + a (n + q * step)
theorem scY_sum {m : Int} {a : Nat → Int} {step : Nat} (hm : 0 < m) (hs : 0 < step) (n : Nat) : ∀ q,scY m a step (n + q * step) = (scY m a step n + sumA a step n q) % m
  | 0 => by simp [sumA,scY_self hm]
  | q + 1 => by
    rw [show n + (q + 1) * step = n + q * step + step by rw [Nat.succ_mul]; omega,scY_step hs,scY_sum hm hs n q,Int.emod_add_emod,sumA,Int.add_assoc]
theorem scD_sum {m : Int} {a : Nat → Int} {step : Nat} (hm : 0 < m) (hs : 0 < step) (n q : Nat) : scD m a step (q * step) n = sumA a step n q % m := by
  unfold scD
  rw [scY_sum hm hs,Int.sub_emod,Int.emod_emod,← Int.sub_emod]
  congr 1
  omega
end Go.Proofs.Ytdaljohmfnfgiaa
namespace Go.Proofs.Ytdaljohmfnfgiaa
open Go Go.RowKit Go.Proofs.Ytdaljohmfnfgiaa.Canon
set_option maxRecDepth 20000
theorem tk69 : tk Try.prog 69 = .one := by kernel_rfl
theorem s_in5w (n : Nat) (a b c e f : Value) : (⟨n,zCD [a,b,c,e,f] 0 .leaf⟩ : Slots) = sput (sput (sput (sput (sput ⟨n,.leaf⟩ (some 0) a) (some 1) b) (some 2) c) (some 3) e) (some 4) f := rfl
theorem ae_mkfunc4 {ρ : Operand → Value} {d : Option Tmp} {ty : TypeId} {pos : String} {af : Array Edge} {gu : Option (Nat × Bool)} {A : AHeap} {f : FuncId} {a b c e : Tmp} : zAE Try.prog ρ ⟨d,.makeFunc (.func f) #[] #[.tmp a,.tmp b,.tmp c,.tmp e],ty,pos,af,gu⟩ A = some (.func (.func f) #[] #[ρ (.tmp a),ρ (.tmp b),ρ (.tmp c),ρ (.tmp e)],A) := by
  rw [ae_mkfunc (by rfl)]; simp
theorem rem_nat {x d : Nat} (hd : 0 < d) (M : AHeap) : bin Try.prog .rem 3 (.int .i64 (x : Int)) (.int .i64 (d : Int)) M = some (.int .i64 ((x % d : Nat) : Int),M) := by
  rw [zBB _ _ _ _ (by omega),IntWalk.rem_in _ _ (by omega)]
  rfl
theorem next_run {G : AHeap} (hw : WF G) {p13 p8 p9 p5 bS : Nat} {c : Array Value} {step n : Nat} {m u w : Int} {fi : Value} (h13 : cl G p13 0 = some (.slice (some ⟨bS,0,none⟩) step step)) (h8 : cl G p8 0 = some (.int .i64 (step : Int))) (h9 : cl G p9 0 = some (.func (.func 77) #[fi] #[])) (h5 : cl G p5 0 = some (.int .i64 m))
    (l13 : p13 < G.next ∧ p13 ≠ bS) (l8 : p8 < G.next ∧ p8 ≠ bS) (l9 : p9 < G.next ∧ p9 ≠ bS) (l5 : p5 < G.next ∧ p5 ≠ bS) (lS : Canon.look G.objs bS = some ⟨.cells c 3,false,0⟩) (hcs : c.size = step) (hs : 0 < step) (hcv : c[n % step]? = some (.int .i64 u)) (hm : 0 < m ∧ m ≤ 65521) (hu : 0 ≤ u ∧ u < m) (hww : 0 ≤ w ∧ w < m)
    (hat : ∀ C,Nx G.next G C → Con Try.prog 77 [fi,.int .i64 (n : Int)] C (fun v C1 => v = .int .i64 w ∧ Nx C.next C C1)) (hvq : VQ (.func (.func 77) #[fi] #[])) :
    Con Try.prog 111 [.int .i64 (n : Int),.pointer (some ⟨p13,0,none⟩),.pointer (some ⟨p8,0,none⟩),.pointer (some ⟨p9,0,none⟩),.pointer (some ⟨p5,0,none⟩)] G
      (fun v G1 => v = .int .i64 ((u + w) % m) ∧ WF G1 ∧ G.next ≤ G1.next ∧ (∀ b,b < G.next → b ≠ bS → Canon.look G1.objs b = Canon.look G.objs b) ∧ Canon.look G1.objs bS = some ⟨.cells (c.setIfInBounds (n % step) (.int .i64 ((u + w) % m))) 3,false,0⟩) := by
  refine zAJ hc Try.func111 rfl (Nat.le_of_ble_eq_true rfl) ?_
  have hlt : n % step < step := Nat.mod_lt _ hs
  have hbS : bS < G.next := hw _ _ lS
  have hcS : cl G bS (n % step) = some (.int .i64 u) := by rw [zCV lS rfl]; exact hcv
  have hwr : IntKind.i64.wrap (u + w) = u + w := IntWalk.i64_in _ ⟨by omega,by omega⟩
  have hr : ∀ M,bin Try.prog .rem 3 (.int .i64 (u + w)) (.int .i64 m) M = some (.int .i64 ((u + w) % m),M) := fun M => by
    rw [zBB _ _ _ _ (by omega),Int.tmod_eq_emod_of_nonneg (by omega)]
  obtain ⟨F,hFb,hF⟩ : ∃ F : AHeap → Prop,(∀ M,F M → ∀ b,b < G.next → ∀ o,cl M b o = cl G b o) ∧ (∀ M,Nx G.next G M → F M) := ⟨fun M => Nx G.next G M,fun M h b hb o => h.cl hb o,fun _ h => h⟩
  have F13 := fun M hM => (hFb M hM _ l13.1 0).trans h13
  have F8 := fun M hM => (hFb M hM _ l8.1 0).trans h8
  have F9 := fun M hM => (hFb M hM _ l9.1 0).trans h9
  have F5 := fun M hM => (hFb M hM _ l5.1 0).trans h5
  have FS := fun M hM => (hFb M hM _ hbS (n % step)).trans hcS
  have hbk : Nx G.next G (bump G 18) := Nx.bump (Nx.refl hw _) 18
  have FB := hF _ hbk
  rw [s_in5w]
  (repeat (first | refine Rn.seq hc ?_ | refine Rn.skip hc ?_ | refine Rn.block hc ?_ | refine Rn.inBlock hc ?_ | refine Rn.scope hc ?_ | refine Rn.inScope hc ?_))
  refine Rn.reg hc rfl ?_
  simp only [zAS,ne_eq,gd,zAX,rops,fx,zOi,zEl,show Try.f111.ntmps = 30 from rfl]
  (repeat (first | refine Rn.seq hc ?_ | refine Rn.skip hc ?_ | refine Rn.block hc ?_ | refine Rn.inBlock hc ?_ | refine Rn.scope hc ?_ | refine Rn.inScope hc ?_))
  refine Rn.drawnL hc hx (nmS w) F (E := [12]) (n := 17) (k := 18) (by kernel_rfl) (by kernel_rfl) (by rfl) (by kernel_rfl) ?_
  refine DrL.read (by first | rfl | kernel_rfl) (by rfl) (by assumption) (fun M hM => by simp only [zAY,zAU,zAT,sp_n,Nat.reduceLT,ne_eq,Nat.reduceEqDiff,zNf,fx,ld,zAR,tk22,F13 M hM] <;> rfl) (by rfl) (by first | exact VQ.int _ _ | exact VQ.bool _ | exact VQ.ptr _ _ | exact VQ.slice _ _ _ | exact VQ.func (by simp [zAW,zAV,zAZ]) (by simp [zAW,zAV,zAZ]) | exact VQ.agg (by simp [zAW,zAV,zAZ]) | exact VQ.tuple (by simp [zAW,zAV,zAZ])) ?_
  refine DrL.read (by first | rfl | kernel_rfl) (by rfl) (by assumption) (fun M hM => by simp only [zAY,zAU,zAT,Nat.reduceLT,ne_eq,Nat.reduceEqDiff,zNf,fx] <;> rfl) (by rfl) (by first | exact VQ.int _ _ | exact VQ.bool _ | exact VQ.ptr _ _ | exact VQ.slice _ _ _ | exact VQ.func (by simp [zAW,zAV,zAZ]) (by simp [zAW,zAV,zAZ]) | exact VQ.agg (by simp [zAW,zAV,zAZ]) | exact VQ.tuple (by simp [zAW,zAV,zAZ])) ?_
  refine DrL.read (by first | rfl | kernel_rfl) (by rfl) (by assumption) (fun M hM => by simp only [zAY,zAU,zAT,sp_n,Nat.reduceLT,ne_eq,Nat.reduceEqDiff,zNf,fx,ld,zAR,tk3,F8 M hM] <;> rfl) (by rfl) (by first | exact VQ.int _ _ | exact VQ.bool _ | exact VQ.ptr _ _ | exact VQ.slice _ _ _ | exact VQ.func (by simp [zAW,zAV,zAZ]) (by simp [zAW,zAV,zAZ]) | exact VQ.agg (by simp [zAW,zAV,zAZ]) | exact VQ.tuple (by simp [zAW,zAV,zAZ])) ?_
  refine DrL.read (by first | rfl | kernel_rfl) (by rfl) (by assumption) (fun M hM => by simp only [zAY,zAU,zAT,sp_n,Nat.reduceLT,ne_eq,Nat.reduceEqDiff,zNf,fx,rem_nat hs] <;> rfl) (by rfl) (by first | exact VQ.int _ _ | exact VQ.bool _ | exact VQ.ptr _ _ | exact VQ.slice _ _ _ | exact VQ.func (by simp [zAW,zAV,zAZ]) (by simp [zAW,zAV,zAZ]) | exact VQ.agg (by simp [zAW,zAV,zAZ]) | exact VQ.tuple (by simp [zAW,zAV,zAZ])) ?_
  refine DrL.read (by first | rfl | kernel_rfl) (by rfl) (by assumption) (fun M hM => by simp only [zAY,zAU,zAT,sp_n,Nat.reduceLT,ne_eq,Nat.reduceEqDiff,zNf,fx,ld,zAR,tk22,F13 M hM] <;> rfl) (by rfl) (by first | exact VQ.int _ _ | exact VQ.bool _ | exact VQ.ptr _ _ | exact VQ.slice _ _ _ | exact VQ.func (by simp [zAW,zAV,zAZ]) (by simp [zAW,zAV,zAZ]) | exact VQ.agg (by simp [zAW,zAV,zAZ]) | exact VQ.tuple (by simp [zAW,zAV,zAZ])) ?_
  refine DrL.read (by first | rfl | kernel_rfl) (by rfl) (by assumption) (fun M hM => by simp only [zAY,zAU,zAT,Nat.reduceLT,ne_eq,Nat.reduceEqDiff,zNf,fx] <;> rfl) (by rfl) (by first | exact VQ.int _ _ | exact VQ.bool _ | exact VQ.ptr _ _ | exact VQ.slice _ _ _ | exact VQ.func (by simp [zAW,zAV,zAZ]) (by simp [zAW,zAV,zAZ]) | exact VQ.agg (by simp [zAW,zAV,zAZ]) | exact VQ.tuple (by simp [zAW,zAV,zAZ])) ?_
  refine DrL.read (by first | rfl | kernel_rfl) (by rfl) (by assumption) (fun M hM => by simp only [zAY,zAU,zAT,sp_n,Nat.reduceLT,ne_eq,Nat.reduceEqDiff,zNf,fx,ld,zAR,tk3,F8 M hM] <;> rfl) (by rfl) (by first | exact VQ.int _ _ | exact VQ.bool _ | exact VQ.ptr _ _ | exact VQ.slice _ _ _ | exact VQ.func (by simp [zAW,zAV,zAZ]) (by simp [zAW,zAV,zAZ]) | exact VQ.agg (by simp [zAW,zAV,zAZ]) | exact VQ.tuple (by simp [zAW,zAV,zAZ])) ?_
  refine DrL.read (by first | rfl | kernel_rfl) (by rfl) (by assumption) (fun M hM => by simp only [zAY,zAU,zAT,sp_n,Nat.reduceLT,ne_eq,Nat.reduceEqDiff,zNf,fx,rem_nat hs] <;> rfl) (by rfl) (by first | exact VQ.int _ _ | exact VQ.bool _ | exact VQ.ptr _ _ | exact VQ.slice _ _ _ | exact VQ.func (by simp [zAW,zAV,zAZ]) (by simp [zAW,zAV,zAZ]) | exact VQ.agg (by simp [zAW,zAV,zAZ]) | exact VQ.tuple (by simp [zAW,zAV,zAZ])) ?_
  refine DrL.read (by first | rfl | kernel_rfl) (by rfl) (by assumption) (fun M hM => by simp only [zAY,zAU,zAT,sp_n,Nat.reduceLT,ne_eq,Nat.reduceEqDiff,zNf,fx,idx,Nat.zero_add,Nat.mul_one,eo22,zAP hlt] <;> rfl) (by rfl) (by first | exact VQ.int _ _ | exact VQ.bool _ | exact VQ.ptr _ _ | exact VQ.slice _ _ _ | exact VQ.func (by simp [zAW,zAV,zAZ]) (by simp [zAW,zAV,zAZ]) | exact VQ.agg (by simp [zAW,zAV,zAZ]) | exact VQ.tuple (by simp [zAW,zAV,zAZ])) ?_
  refine DrL.read (by first | rfl | kernel_rfl) (by rfl) (by assumption) (fun M hM => by simp only [zAY,zAU,sp_n,Nat.reduceLT,fx,ld,zAR,tk3,FS M hM] <;> rfl) (by rfl) (by first | exact VQ.int _ _ | exact VQ.bool _ | exact VQ.ptr _ _ | exact VQ.slice _ _ _ | exact VQ.func (by simp [zAW,zAV,zAZ]) (by simp [zAW,zAV,zAZ]) | exact VQ.agg (by simp [zAW,zAV,zAZ]) | exact VQ.tuple (by simp [zAW,zAV,zAZ])) ?_
  refine DrL.read (by first | rfl | kernel_rfl) (by rfl) (by assumption) (fun M hM => by simp only [zAY,zAU,zAT,sp_n,Nat.reduceLT,ne_eq,Nat.reduceEqDiff,zNf,fx,ld,zAR,tk69,F9 M hM] <;> rfl) (by rfl) (by first | exact hvq | exact VQ.int _ _ | exact VQ.bool _ | exact VQ.ptr _ _ | exact VQ.slice _ _ _ | exact VQ.func (by simp [zAW,zAV,zAZ]) (by simp [zAW,zAV,zAZ]) | exact VQ.agg (by simp [zAW,zAV,zAZ]) | exact VQ.tuple (by simp [zAW,zAV,zAZ])) ?_
  refine DrL.read (by first | rfl | kernel_rfl) (by rfl) (by assumption) (fun M hM => by simp only [zAY,zAU,zAT,Nat.reduceLT,ne_eq,Nat.reduceEqDiff,zNf,fx] <;> rfl) (by rfl) (by first | exact VQ.int _ _ | exact VQ.bool _ | exact VQ.ptr _ _ | exact VQ.slice _ _ _ | exact VQ.func (by simp [zAW,zAV,zAZ]) (by simp [zAW,zAV,zAZ]) | exact VQ.agg (by simp [zAW,zAV,zAZ]) | exact VQ.tuple (by simp [zAW,zAV,zAZ])) ?_
  refine DrL.call (by kernel_rfl) (by rfl) (by assumption) (by rfl) (zBU (g := 77) (fi := #[fi]) (ca := #[]) (by rfl) ⟨by rfl,by rfl⟩ (by simp only [zAY,zAU,zAT,sp_n,Nat.reduceLT,ne_eq,Nat.reduceEqDiff,zNf]) (xs := [fi,.int .i64 (n : Int)]) (by simp only [zAY,zAU,sp_n,Nat.reduceLT,List.map_cons,List.map_nil,List.nil_append,List.append_nil,List.cons_append]) (Con.mono (hat _ hbk) fun v A1 h => (h : v = .int .i64 w ∧ Nx (bump G 18).next (bump G 18) A1))) ?_
  rintro v M1 ⟨rfl,k1⟩
  have hM1 : Nx G.next G M1 := hbk.trans (k1.le hbk.next)
  have FM1 := hF _ hM1
  refine DrL.read (by first | rfl | kernel_rfl) (by rfl) (by assumption) (fun M hM => by simp only [zAY,zAU,zAT,sp_n,Nat.reduceLT,ne_eq,Nat.reduceEqDiff,zNf,fx,zAC,hwr] <;> rfl) (by rfl) (by first | exact VQ.int _ _ | exact VQ.bool _ | exact VQ.ptr _ _ | exact VQ.slice _ _ _ | exact VQ.func (by simp [zAW,zAV,zAZ]) (by simp [zAW,zAV,zAZ]) | exact VQ.agg (by simp [zAW,zAV,zAZ]) | exact VQ.tuple (by simp [zAW,zAV,zAZ])) ?_
  refine DrL.read (by first | rfl | kernel_rfl) (by rfl) (by assumption) (fun M hM => by simp only [zAY,zAU,zAT,sp_n,Nat.reduceLT,ne_eq,Nat.reduceEqDiff,zNf,fx,ld,zAR,tk3,F5 M hM] <;> rfl) (by rfl) (by first | exact VQ.int _ _ | exact VQ.bool _ | exact VQ.ptr _ _ | exact VQ.slice _ _ _ | exact VQ.func (by simp [zAW,zAV,zAZ]) (by simp [zAW,zAV,zAZ]) | exact VQ.agg (by simp [zAW,zAV,zAZ]) | exact VQ.tuple (by simp [zAW,zAV,zAZ])) ?_
  refine DrL.read (by first | rfl | kernel_rfl) (by rfl) (by assumption) (fun M hM => by simp only [zAY,zAU,zAT,sp_n,Nat.reduceLT,ne_eq,Nat.reduceEqDiff,zNf,fx,hr] <;> rfl) (by rfl) (by first | exact VQ.int _ _ | exact VQ.bool _ | exact VQ.ptr _ _ | exact VQ.slice _ _ _ | exact VQ.func (by simp [zAW,zAV,zAZ]) (by simp [zAW,zAV,zAZ]) | exact VQ.agg (by simp [zAW,zAV,zAZ]) | exact VQ.tuple (by simp [zAW,zAV,zAZ])) ?_
  refine DrL.read (by first | rfl | kernel_rfl) (by rfl) (by assumption) (fun M hM => by simp only [zAY,zAU,zAT,sp_n,Nat.reduceLT,ne_eq,Nat.reduceEqDiff,zNf,fx,idx,Nat.zero_add,Nat.mul_one,eo22,zAP hlt] <;> rfl) (by rfl) (by first | exact VQ.int _ _ | exact VQ.bool _ | exact VQ.ptr _ _ | exact VQ.slice _ _ _ | exact VQ.func (by simp [zAW,zAV,zAZ]) (by simp [zAW,zAV,zAZ]) | exact VQ.agg (by simp [zAW,zAV,zAZ]) | exact VQ.tuple (by simp [zAW,zAV,zAZ])) ?_
  have lM1 : Canon.look M1.objs bS = _ := (hM1.keep _ hbS).trans lS
  obtain ⟨M2,v1,v2⟩ := st1_upd (o := n % step) (v := .int .i64 ((u + w) % m)) lM1 rfl (by omega) rfl
  refine DrL.eff (by rfl) (by rfl) (pd1 := []) (pd2 := []) (by kernel_rfl) (by kernel_rfl) (ms0 := []) (A0 := M1) rfl (fun _ h => by cases h) FM1 (by rfl) (v := undef) (A1 := M2) (zBP rfl (fx_ok (by rfl) (by simp only [zAY,zAU,zAT,sp_n,Nat.reduceLT,ne_eq,Nat.reduceEqDiff,zNf,fx,str,zAR,tk3,v1]))) ?_
  refine DrL.nil ⟨by rfl,M2,by rfl,?_⟩
  obtain ⟨c',t,f,g,e,r1,r2,_⟩ := v2.at'
  rw [lM1] at r1
  cases r1
  have n2 := v2.next
  have nM := hM1.next
  have z13 : cl M2 p13 0 = _ := (zAB (v2.off _ l13.2)).trans ((hM1.cl l13.1 0).trans h13)
  have z8 : cl M2 p8 0 = _ := (zAB (v2.off _ l8.2)).trans ((hM1.cl l8.1 0).trans h8)
  have zS : cl M2 bS (n % step) = some (.int .i64 ((u + w) % m)) := by
    rw [zCV r2 rfl]
    show (c.setIfInBounds (n % step) _)[n % step]? = _
    rw [Array.getElem?_setIfInBounds,if_pos rfl,if_pos (by omega)]
  (repeat (first | refine Rn.seq hc ?_ | refine Rn.skip hc ?_ | refine Rn.block hc ?_ | refine Rn.inBlock hc ?_ | refine Rn.scope hc ?_ | refine Rn.inScope hc ?_))
  refine Rn.zDX hc hx (by kernel_rfl) (by rfl) (by kernel_rfl) ?_ ?_
  · simp only [rdV,VQ.int,VQ.ptr,VQ.slice,zBT,zAY,zAU,zAT,sp_n,zAO,Nat.reduceLT,ne_eq,Nat.reduceEqDiff,zNf,gd,zAX,fx,ld,idx,zAR,Nat.zero_add,Nat.reduceAdd,Nat.mul_one,and_self,tk3,tk22,eo22,z13,z8,zS,rem_nat hs,zAP hlt,List.length_cons,List.length_nil]
  simp only [zBT,zAY,zAU,zAT,sp_n,zAO,Nat.reduceLT,ne_eq,Nat.reduceEqDiff,zNf,gd,zAX,rops,fx,ld,idx,zAR,Nat.zero_add,zOi,zEl,Nat.reduceAdd,Nat.mul_one,tk3,tk22,eo22,z13,z8,zS,rem_nat hs,zAP hlt,List.length_cons,List.length_nil]
  (repeat (first | refine Rn.seq hc ?_ | refine Rn.skip hc ?_ | refine Rn.block hc ?_ | refine Rn.inBlock hc ?_ | refine Rn.scope hc ?_ | refine Rn.inScope hc ?_))
  refine Rn.ret (zAN rfl ⟨?_,WF.bump (v2.nx hM1.wf (Nat.zero_le _)).wf _,by rw [zAH]; omega,fun b hb hne => ?_,r2⟩)
  · simp only [zAU,sp_n,Nat.reduceLT]
  · show Canon.look M2.objs b = _
    rw [v2.off _ hne]
    exact hM1.keep _ hb
structure SumSt (C : AHeap) (bS : Nat) (m : Int) (a : Nat → Int) (step : Nat) (G : AHeap) (M L : Nat) (wa : Option Addr) : Prop where
  wf : WF G
  next : C.next ≤ G.next
  keep : ∀ b,b < C.next → b ≠ bS → Canon.look G.objs b = Canon.look C.objs b
  arr : ∃ c : Array Value,c.size = step ∧ Canon.look G.objs bS = some ⟨.cells c 3,false,0⟩ ∧ ∀ n,M ≤ n → n < M + step → c[n % step]? = some (.int .i64 (scY m a step n))
  gr : Gr G wa C.next (redS (scn m a step) L)
theorem SumSt.nx {C : AHeap} {bS : Nat} {m : Int} {a : Nat → Int} {step : Nat} {G H : AHeap} {M L : Nat} {wa : Option Addr} (h : SumSt C bS m a step G M L wa) (k : Nx G.next G H) : SumSt C bS m a step H M L wa where
  wf := k.wf
  next := Nat.le_trans h.next k.next
  keep := fun b hb hne => (k.keep _ (Nat.lt_of_lt_of_le hb h.next)).trans (h.keep b hb hne)
  arr := by
    obtain ⟨c,h1,h2,h3⟩ := h.arr
    exact ⟨c,h1,(k.keep _ (h.wf _ _ h2)).trans h2,h3⟩
  gr := h.gr.nx (n := 0) h.wf k
structure SumV (C : AHeap) (bS p13 p8 p9 p5 : Nat) (m : Int) (step : Nat) (fi : Value) : Prop where
  h13 : cl C p13 0 = some (.slice (some ⟨bS,0,none⟩) step step)
  h8 : cl C p8 0 = some (.int .i64 (step : Int))
  h9 : cl C p9 0 = some (.func (.func 77) #[fi] #[])
  h5 : cl C p5 0 = some (.int .i64 m)
  l13 : p13 < C.next ∧ p13 ≠ bS
  l8 : p8 < C.next ∧ p8 ≠ bS
  l9 : p9 < C.next ∧ p9 ≠ bS
  l5 : p5 < C.next ∧ p5 ≠ bS
  lS : bS < C.next
theorem sum_next {C : AHeap} {bS p13 p8 p9 p5 : Nat} {m : Int} {a : Nat → Int} {step : Nat} {fi : Value} (hV : SumV C bS p13 p8 p9 p5 m step fi) (hs : 0 < step) (hm : 0 < m ∧ m ≤ 65521) (ha : ∀ n,0 ≤ a n ∧ a n < m) (hvq : VQ (.func (.func 77) #[fi] #[])) {G : AHeap} {M L : Nat} {wa : Option Addr} (h : SumSt C bS m a step G M L wa)
    (hat : ∀ C1,Nx G.next G C1 → Con Try.prog 77 [fi,.int .i64 (M : Int)] C1 (fun v C2 => v = .int .i64 (a M) ∧ Nx C1.next C1 C2)) :
    Con Try.prog 111 [.int .i64 (M : Int),.pointer (some ⟨p13,0,none⟩),.pointer (some ⟨p8,0,none⟩),.pointer (some ⟨p9,0,none⟩),.pointer (some ⟨p5,0,none⟩)] G
      (fun v G1 => v = .int .i64 (scn m a step M) ∧ SumSt C bS m a step G1 (M + 1) L wa ∧ G.next ≤ G1.next ∧ ∀ b,b < G.next → b ≠ bS → Canon.look G1.objs b = Canon.look G.objs b) := by
  obtain ⟨c,h1,h2,h3⟩ := h.arr
  have hn := h.next
  have k13 : cl G p13 0 = _ := (zAB (h.keep _ hV.l13.1 hV.l13.2)).trans hV.h13
  have k8 : cl G p8 0 = _ := (zAB (h.keep _ hV.l8.1 hV.l8.2)).trans hV.h8
  have k9 : cl G p9 0 = _ := (zAB (h.keep _ hV.l9.1 hV.l9.2)).trans hV.h9
  have k5 : cl G p5 0 = _ := (zAB (h.keep _ hV.l5.1 hV.l5.2)).trans hV.h5
  refine Con.mono (next_run h.wf k13 k8 k9 k5 ⟨by have := hV.l13.1; omega,hV.l13.2⟩ ⟨by have := hV.l8.1; omega,hV.l8.2⟩ ⟨by have := hV.l9.1; omega,hV.l9.2⟩ ⟨by have := hV.l5.1; omega,hV.l5.2⟩ h2 h1 hs (h3 M (Nat.le_refl _) (by omega)) hm (scY_lim hm.1 M) (ha M) hat hvq) fun v G1 ⟨q1,q2,q3,q4,q5⟩ => ⟨?_,⟨q2,by omega,fun b hb hne => (q4 b (by omega) hne).trans (h.keep b hb hne),⟨_,by rw [Array.size_setIfInBounds]; exact h1,q5,fun n hn1 hn2 => ?_⟩,?_⟩,q3,q4⟩
  · rw [q1,scn_eq hs]
  · rw [Array.getElem?_setIfInBounds]
    by_cases hne : n = M + step
    · subst hne
      rw [Nat.add_mod_right,if_pos rfl,if_pos (by rw [h1]; exact Nat.mod_lt _ hs),scY_step hs]
    · rw [if_neg]
      · exact h3 n (by omega) (by omega)
      · intro he
        have e1 := Nat.div_add_mod M step
        have e2 := Nat.div_add_mod n step
        have h4 : M / step ≤ n / step := Nat.div_le_div_right (by omega)
        have h5 : M / step < n / step + 1 := by omega
        by_cases h6 : n / step = M / step
        · rw [h6] at e2; omega
        · have h7 : step * (M / step + 1) ≤ step * (n / step) := Nat.mul_le_mul_left _ (by omega)
          rw [Nat.mul_add,Nat.mul_one] at h7
          omega
  · refine h.gr.ext q3 fun b hb => ?_
    by_cases hlt : b < G.next
    · exact .inr (q4 b hlt (by have := hV.lS; omega))
    · exact .inl (h.wf.none (by omega))
theorem sum_push {C : AHeap} {bS : Nat} {m : Int} {a : Nat → Int} {step : Nat} {G : AHeap} {M L : Nat} {wa : Option Addr} (h : SumSt C bS m a step G M L wa) (hbS : bS < C.next) {b2 : Nat} (hx : cl G b2 0 = some (.int .i64 (scn m a step L))) (hlen : L ≤ 4000000) :
    ∃ G1,aapp Try.prog #[22,22] #[.slice wa L L,.slice (some ⟨b2,0,none⟩) 1 1] G = some (.slice (some ⟨G.next,0,none⟩) (L + 1) (L + 1),G1) ∧ G1.next = G.next + 1 ∧ SumSt C bS m a step G1 M (L + 1) (some ⟨G.next,0,none⟩) ∧ (∀ b,b < G.next → (∀ y,wa = some y → y.block ≠ b) → Canon.look G1.objs b = Canon.look G.objs b) := by
  obtain ⟨G1,q1,q2,q3,q4,q5,q6⟩ := gr_push h.wf h.gr (a2 := some ⟨b2,0,none⟩) (c2 := 1) (b2 := b2) (x := scn m a step L) rfl hx (by rw [zAI]; exact hlen)
  rw [zAI] at q1
  rw [redS_snoc] at q4
  have hn := h.next
  have hk : Nx C.next G G1 := q6.le (by omega)
  refine ⟨G1,q1,q2,⟨q3,by omega,fun b hb hne => (hk.keep b hb).trans (h.keep b hb hne),?_,q4.mono hn⟩,q5⟩
  obtain ⟨c,h1,h2,h3⟩ := h.arr
  exact ⟨c,h1,(hk.keep _ hbS).trans h2,h3⟩
theorem SumSt.lt {C : AHeap} {bS : Nat} {m : Int} {a : Nat → Int} {step : Nat} {G : AHeap} {M L : Nat} {wa : Option Addr} (h : SumSt C bS m a step G M L wa) {y : Addr} (hy : wa = some y) : C.next ≤ y.block ∧ y.block < G.next := by
  obtain ⟨_,h1,z,hz,_⟩ := h.gr.sl y hy
  exact ⟨h1,h.wf _ _ hz⟩
end Go.Proofs.Ytdaljohmfnfgiaa
namespace Go.Proofs.Ytdaljohmfnfgiaa
open Go Go.RowKit Go.Proofs.Ytdaljohmfnfgiaa.Canon
set_option maxRecDepth 20000
theorem box1 {A : AHeap} (hw : WF A) (v : Value) (t : TypeId) : ∃ A1,A.push (.cells #[v] t) = A1 ∧ Nx A.next A A1 ∧ A1.next = A.next + 1 ∧ cl A1 A.next 0 = some v ∧ Canon.look A1.objs A.next = some ⟨.cells #[v] t,false,0⟩ :=
  ⟨_,rfl,(Nx.refl hw _).push (Nat.le_refl _) _,rfl,by rw [zBA]; rfl,zAM A _⟩
theorem cls_rep {M step i : Nat} (hi : i < step) : ∃ n,M ≤ n ∧ n < M + step ∧ n % step = i := by
  have e := Nat.div_add_mod M step
  have h := Nat.mod_lt M (show 0 < step by omega)
  by_cases hr : M % step ≤ i
  · refine ⟨M + (i - M % step),by omega,by omega,?_⟩
    rw [show M + (i - M % step) = step * (M / step) + i by omega,Nat.mul_add_mod,Nat.mod_eq_of_lt hi]
  · refine ⟨M + (step - M % step + i),by omega,by omega,?_⟩
    rw [show M + (step - M % step + i) = step * (M / step) + (step + i) by omega,Nat.mul_add_mod,Nat.add_mod_left,Nat.mod_eq_of_lt hi]
theorem tld_tp {A D : AHeap} {m : Int} {s : Nat → Int} (h : TP 0 m s 0 [] [] 11) (hx : Nx A.next A D) : Tld A 0 m s (.tuple #[.agg #[.int .i64 0,.slice none 0 0,.slice none 0 0],.int .i64 11]) D :=
  ⟨hx,0,[],[],11,none,0,none,0,h,rfl,ints_nil' _ _ _ _,ints_nil' _ _ _ _,fun h0 => absurd h0 (by simp),fun h0 => absurd h0 (by simp),fun y hy => (by cases hy),fun y hy => (by cases hy),Nat.le_refl _,Nat.le_refl _⟩
theorem asl_lo1 {A : AHeap} {b o lo len : Nat} (hs : Sl A (some ⟨b,o,none⟩) lo) {n : Nat} (hn : n < len) : asl Try.prog 22 (.slice (some ⟨b,o,none⟩) len len) (some (.int .i64 (n : Int))) none none A = some (.slice (some ⟨b,o + n,none⟩) (len - n) (len - n),A) := by
  obtain ⟨_,i,z,hinf,_,_,_,hsz,_⟩ := elB_eq el22
  have hb1 : zBN (some (.int .i64 (n : Int))) 0 = some n := by simp [zBN]
  have hb0 : ∀ d,zBN none d = some d := fun _ => rfl
  have t2 : Nat.ble n len = true := Nat.ble_eq_true_of_le (by omega)
  have t3 : Nat.ble len len = true := Nat.ble_eq_true_of_le (Nat.le_refl _)
  have hne : ¬ len = n := by omega
  obtain ⟨_,_,y,hy,hg⟩ := hs _ rfl
  obtain ⟨ob,g,zz⟩ := y
  have hadd : (⟨b,o,none⟩ : Addr).add (n * i.size) = ⟨b,o + n,none⟩ := by
    rw [hsz,Nat.mul_one,addr_add]
  rcases hg with hg | ⟨hg,_,hz⟩
  · simp only at hg
    subst hg
    simp only [asl,un22,hinf,hb0,hb1,t2,Option.isSome_none,Bool.not_false,Bool.true_or,hy]
    rw [t3]
    simp only [hne,if_false,hadd]
  · simp only at hg hz
    subst hg hz
    have hzi : Nat.beq 1 i.size = true := by rw [hsz]; rfl
    have hcb : Nat.beq (len - n) 0 = false := by
      cases hb : Nat.beq (len - n) 0 with
      | false => rfl
      | true => have := Nat.eq_of_beq_eq_true hb; omega
    simp only [asl,un22,hinf,hb0,hb1,t2,Option.isSome_none,Bool.not_false,Bool.true_or,hy,hzi,hcb,hadd]
    rw [t3]
def smS (d g L : Nat) : Canon.Spec := fun f _ A v A1 => match f with
  | 89 => v = .int .i64 (d : Int) ∧ Nx A.next A A1
  | 108 => v = .int .i64 (g : Int) ∧ Nx A.next A A1
  | _ => v = .int .i64 (L : Int) ∧ Nx A.next A A1
theorem summed_run {A : AHeap} (hw : WF A) {m stem round step : Nat} {fi : Value} {a : Nat → Int} (hm : 2 ≤ m ∧ m ≤ 65521) (hst : stem ≤ 1000) (hro : 1 ≤ round ∧ round ≤ 120) (hsp : 1 ≤ step ∧ step ≤ 120) (hlim : ∀ n,0 ≤ a n ∧ a n < (m : Int)) (hP : Per a stem round)
    (hat : ∀ C,Nx A.next A C → ∀ n : Nat,n < 10000000 → Con Try.prog 77 [fi,.int .i64 (n : Int)] C (fun v C1 => v = .int .i64 (a n) ∧ Nx C.next C C1)) (hvq : VQ (.func (.func 77) #[fi] #[])) :
    Con Try.prog 91 [.int .i64 (m : Int),.int .i64 (stem : Int),.int .i64 (round : Int),.int .i64 (step : Int),.func (.func 77) #[fi] #[]] A (Tld A 0 m (scn m a step)) := by
  refine zAJ hc Try.func91 rfl (Nat.le_of_ble_eq_true rfl) ?_
  obtain ⟨A1,e1,hx1,hn1,b5,-⟩ := box1 hw (.int .i64 (m : Int)) 3
  obtain ⟨A2,e2,hx2,hn2,b8,-⟩ := box1 hx1.wf (.int .i64 (step : Int)) 3
  obtain ⟨A3,e3,hx3,hn3,b9,-⟩ := box1 hx2.wf (.func (.func 77) #[fi] #[]) 69
  have hx4 : Nx A3.next A3 (A3.push (.cells #[.int .i64 0,.slice none 0 0,.slice none 0 0] 24)) := (Nx.refl hx3.wf _).push (Nat.le_refl _) _
  have l4 := zAM A3 (.cells #[.int .i64 0,.slice none 0 0,.slice none 0 0] 24)
  have hn4 : (A3.push (.cells #[.int .i64 0,.slice none 0 0,.slice none 0 0] 24)).next = A3.next + 1 := rfl
  generalize e4 : A3.push (.cells #[.int .i64 0,.slice none 0 0,.slice none 0 0] 24) = A4 at hx4 l4 hn4
  have hx5 : Nx A4.next A4 (A4.push (.cells #[.int .i64 (round : Int),.int .i64 (step : Int)] 3)) := (Nx.refl hx4.wf _).push (Nat.le_refl _) _
  have l5 := zAM A4 (.cells #[.int .i64 (round : Int),.int .i64 (step : Int)] 3)
  have hn5 : (A4.push (.cells #[.int .i64 (round : Int),.int .i64 (step : Int)] 3)).next = A4.next + 1 := rfl
  generalize e5 : A4.push (.cells #[.int .i64 (round : Int),.int .i64 (step : Int)] 3) = A5 at hx5 l5 hn5
  have b8' := (hx4.cl (show A1.next < A3.next by omega) 0).trans ((hx3.cl (show A1.next < A2.next by omega) 0).trans b8)
  obtain ⟨f1,f2,f3,f4⟩ := zDZ (show 0 < round by omega) (show 0 < step by omega)
  have hB2 : lcmN round step ≤ 120 * 120 := Nat.le_trans f4 (Nat.mul_le_mul hro.2 hsp.2)
  rw [s_in5w]
  (repeat (first | refine Rn.seq hc ?_ | refine Rn.skip hc ?_ | refine Rn.block hc ?_ | refine Rn.inBlock hc ?_ | refine Rn.scope hc ?_ | refine Rn.inScope hc ?_))
  refine Rn.reg hc rfl ?_
  simp only [zAY,zAS,zAU,zAT,sp_n,Nat.reduceLT,ne_eq,Nat.reduceEqDiff,zNf,gd,zAX,rops,fx,zOi,zEl,Value.cells,show Try.f91.ntmps = 113 from rfl,e1,e2,e3,ze24,e4]
  (repeat (first | refine Rn.seq hc ?_ | refine Rn.skip hc ?_ | refine Rn.block hc ?_ | refine Rn.inBlock hc ?_ | refine Rn.scope hc ?_ | refine Rn.inScope hc ?_))
  refine Rn.region hc fun K hK => ?_
  refine Wo.run hc 3 rfl rfl rfl ?_
  simp (maxSteps := 2000000) only [List.drop_zero,List.take_succ_cons,List.take_zero,zAY,zAU,zAT,sp_n,Nat.reduceLT,ne_eq,Nat.reduceEqDiff,not_false_eq_true,gd,zAX,rops,fx,ld,zAR,Nat.zero_add,Option.some.injEq,exists_eq_left',tk3,b8',bs22_2,zBY,e5]
  refine Wo.call hc (by rfl) (by rfl) ⟨by rfl,by rfl⟩ (xs := [.slice (some ⟨A4.next,0,none⟩) 2 2]) (by rfl) (by rfl) (by rfl) (Con.mono (lcm_two hx5.wf (x := round) (y := step) (by rw [zCV l5 rfl]; rfl) (by rw [zCV l5 rfl]; rfl) (by omega) ⟨by omega,by omega⟩ ⟨by omega,by omega⟩) ?_)
  rintro w A6 ⟨rfl,hx6⟩
  refine Wo.run hc 1 rfl rfl rfl ?_
  simp (maxSteps := 2000000) only [List.drop_zero,List.drop_succ_cons,List.take_succ_cons,List.take_zero,zAY,zAU,sp_n,Nat.reduceLT,gd,zAX,rops,fx,Option.some.injEq,exists_eq_left',Nat.reduceAdd]
  refine Wo.done hc rfl (hK _ _ ?_)
  clear hK
  (repeat (first | refine Rn.seq hc ?_ | refine Rn.skip hc ?_ | refine Rn.block hc ?_ | refine Rn.inBlock hc ?_ | refine Rn.scope hc ?_ | refine Rn.inScope hc ?_))
  have hdvS : step ∣ lcmN round step := Nat.dvd_of_mod_eq_zero f3
  have hdvR : round ∣ lcmN round step := Nat.dvd_of_mod_eq_zero f2
  generalize lcmN round step = B at f1 f2 f3 f4 hB2 hdvS hdvR ⊢
  have hP' : ∀ n,stem ≤ n → a (n + B) = a n := fun n hn => by
    obtain ⟨q,rfl⟩ := hdvR
    rw [Nat.mul_comm]
    exact hP.times q n hn
  clear f2 f3 f4
  have n6 := hx6.next
  have hx46 : Nx A4.next A4 A6 := hx5.trans (hx6.le (by omega))
  have hx7 : Nx A6.next A6 (A6.push (.cells (Array.replicate step (.int .i64 0)) 3)) := (Nx.refl hx6.wf _).push (Nat.le_refl _) _
  have l7 := zAM A6 (.cells (Array.replicate step (.int .i64 0)) 3)
  have hn7 : (A6.push (.cells (Array.replicate step (.int .i64 0)) 3)).next = A6.next + 1 := rfl
  generalize e7 : A6.push (.cells (Array.replicate step (.int .i64 0)) 3) = A7 at hx7 l7 hn7
  obtain ⟨A8,e8,hx8,hn8,-,l8⟩ := box1 hx7.wf (.slice none 0 0) 22
  obtain ⟨C,q9,u9⟩ := st1_upd (o := 0) (v := .slice (some ⟨A6.next,0,none⟩) step step) l8 rfl (by simp) rfl
  have hn9 := u9.next
  have hx9 : Nx A7.next A7 C := hx8.trans (u9.nx hx8.wf (Nat.le_refl _))
  have h13 : cl C A7.next 0 = some (.slice (some ⟨A6.next,0,none⟩) step step) := by rw [u9.cl]; rfl
  have hx4C : Nx A4.next A4 C := hx46.trans ((hx7.le (by omega)).trans (hx9.le (by omega)))
  have hx3C : Nx A3.next A3 C := hx4.trans (hx4C.le (by omega))
  have h8 : cl C A1.next 0 = some (.int .i64 (step : Int)) := (hx4C.cl (show A1.next < A4.next by omega) 0).trans b8'
  have h9 : cl C A2.next 0 = some (.func (.func 77) #[fi] #[]) := (hx3C.cl (show A2.next < A3.next by omega) 0).trans b9
  have h5 : cl C A.next 0 = some (.int .i64 (m : Int)) := (hx3C.cl (show A.next < A3.next by omega) 0).trans ((hx3.cl (show A.next < A2.next by omega) 0).trans ((hx2.cl (show A.next < A1.next by omega) 0).trans b5))
  have lR : Canon.look C.objs A3.next = _ := (hx4C.keep _ (by omega)).trans l4
  have hx03 : Nx A.next A A3 := hx1.trans ((hx2.le (by omega)).trans (hx3.le (by omega)))
  have hAC : Nx A.next A C := hx03.trans (hx3C.le (by omega))
  have lS : Canon.look C.objs A6.next = _ := (hx9.keep _ (by omega)).trans l7
  refine Rn.reg hc rfl ?_
  simp only [zAY,zAU,zAT,sp_n,zAO,Nat.reduceLT,ne_eq,Nat.reduceEqDiff,zNf,gd,zAX,rops,fx,ld,str,zAR,zOi,zEl,Value.cells,tk3,tk22,(hx46.cl (show A1.next < A4.next by omega) 0).trans b8',ae_mk2,mk2_nat (show step ≤ 1000000 by omega),e7,ze22,e8,q9]
  (repeat (first | refine Rn.seq hc ?_ | refine Rn.skip hc ?_ | refine Rn.block hc ?_ | refine Rn.inBlock hc ?_ | refine Rn.scope hc ?_ | refine Rn.inScope hc ?_))
  obtain ⟨bS,hbS⟩ : ∃ b,b = A6.next := ⟨_,rfl⟩
  obtain ⟨p13,hp13⟩ : ∃ b,b = A7.next := ⟨_,rfl⟩
  obtain ⟨p8,hp8⟩ : ∃ b,b = A1.next := ⟨_,rfl⟩
  obtain ⟨p9,hp9⟩ : ∃ b,b = A2.next := ⟨_,rfl⟩
  obtain ⟨p5,hp5⟩ : ∃ b,b = A.next := ⟨_,rfl⟩
  obtain ⟨pR,hpR⟩ : ∃ b,b = A3.next := ⟨_,rfl⟩
  rw [← hbS,← hp13] at h13
  rw [← hbS] at lS
  rw [← hp8] at h8
  rw [← hp9] at h9
  rw [← hp5] at h5
  rw [← hpR] at lR
  rw [← hp13,← hp8,← hp9,← hp5,← hpR]
  have hV : SumV C bS p13 p8 p9 p5 (m : Int) step fi := ⟨h13,h8,h9,h5,⟨by omega,by omega⟩,⟨by omega,by omega⟩,⟨by omega,by omega⟩,⟨by omega,by omega⟩,by omega⟩
  have hpRC : pR < C.next := by omega
  have hpRS : pR ≠ bS := by omega
  have hbSA : A.next ≤ bS := by omega
  have hpRA : A.next ≤ pR := by omega
  have hp5R : p5 ≠ pR := by omega
  have S0 : SumSt C bS (m : Int) a step C 0 0 none := ⟨hAC.wf,Nat.le_refl _,fun _ _ _ => rfl,⟨_,Array.size_replicate,lS,fun n h1 h2 => by
    have hn : n < step := by omega
    rw [Nat.mod_eq_of_lt hn,scY_zero hn]
    simp [hn]⟩,Gr.nil _ _⟩
  have hAG : ∀ {G : AHeap} {M L : Nat} {wa : Option Addr},SumSt C bS (m : Int) a step G M L wa → Nx A.next A G := fun {G M L wa} h => ⟨Nat.le_trans hAC.next h.next,h.wf,fun b hb => (h.keep b (by have := hAC.next; omega) (by omega)).trans (hAC.keep b hb)⟩
  have hmi : (0 : Int) < (m : Int) ∧ (m : Int) ≤ 65521 := by omega
  clear e1 e2 e3 e4 e5 e7 e8 q9 u9 l4 l5 l7 l8 b5 b8 b9 b8' hx1 hx2 hx3 hx4 hx5 hx6 hx7 hx8 hx9 hx46 hx4C hx3C hx03 hn1 hn2 hn3 hn4 hn5 hn7 hn8 hn9 n6
  clear hbS hp13 hp8 hp9 hp5 hpR
  refine Rn.reg hc rfl ?_
  simp only [zAY,zAU,zAT,sp_n,Nat.reduceLT,ne_eq,Nat.reduceEqDiff,zNf,gd,zAX,rops,fx,zOi,zEl,ae_mkfunc4]
  (repeat (first | refine Rn.seq hc ?_ | refine Rn.skip hc ?_ | refine Rn.block hc ?_ | refine Rn.inBlock hc ?_ | refine Rn.scope hc ?_ | refine Rn.inScope hc ?_))
  refine Rn.reg hc rfl ?_
  simp only [zAS,gd,zAX,rops,fx,zOi,zEl]
  (repeat (first | refine Rn.seq hc ?_ | refine Rn.skip hc ?_ | refine Rn.block hc ?_ | refine Rn.inBlock hc ?_ | refine Rn.scope hc ?_ | refine Rn.inScope hc ?_))
  refine Rn.reg hc rfl ?_
  simp only [zAY,zAS,zAU,zAT,sp_n,Nat.reduceLT,ne_eq,Nat.reduceEqDiff,zNf,gd,zAX,rops,fx,zOi,zEl]
  (repeat (first | refine Rn.seq hc ?_ | refine Rn.skip hc ?_ | refine Rn.block hc ?_ | refine Rn.inBlock hc ?_ | refine Rn.scope hc ?_ | refine Rn.inScope hc ?_))
  refine Rn.loopI hc (I := fun k s G => ∃ i wa,i ≤ stem ∧ k = stem - i ∧ SumSt C bS (m : Int) a step G i i wa ∧ s.n = 113 ∧ sget s 1 = .int .i64 (stem : Int) ∧ sget s 5 = .pointer (some ⟨p5,0,none⟩) ∧ sget s 8 = .pointer (some ⟨p8,0,none⟩) ∧ sget s 10 = .pointer (some ⟨pR,0,none⟩) ∧ sget s 12 = .int .i64 (B : Int) ∧ sget s 13 = .pointer (some ⟨p13,0,none⟩) ∧ sget s 14 = .func (.func 111) #[] #[.pointer (some ⟨p13,0,none⟩),.pointer (some ⟨p8,0,none⟩),.pointer (some ⟨p9,0,none⟩),.pointer (some ⟨p5,0,none⟩)] ∧ sget s 15 = .slice wa i i ∧ sget s 30 = .int .i64 (stem : Int) ∧ sget s 31 = .int .i64 (i : Int))
    (n := stem) ⟨0,none,by omega,rfl,S0,by simp only [sp_n],by simp only [zAU,zAT,sp_n,Nat.reduceLT,ne_eq,Nat.reduceEqDiff,zNf],by simp only [zAU,zAT,sp_n,Nat.reduceLT,ne_eq,Nat.reduceEqDiff,zNf],by simp only [zAU,zAT,sp_n,Nat.reduceLT,ne_eq,Nat.reduceEqDiff,zNf],by simp only [zAU,zAT,sp_n,Nat.reduceLT,ne_eq,Nat.reduceEqDiff,zNf],by simp only [zAU,zAT,sp_n,Nat.reduceLT,ne_eq,Nat.reduceEqDiff,zNf],by simp only [zAU,zAT,sp_n,Nat.reduceLT,ne_eq,Nat.reduceEqDiff,zNf],by simp only [zAU,zAT,sp_n,Nat.reduceLT,ne_eq,Nat.reduceEqDiff,zNf],by simp only [zAU,zAT,sp_n,Nat.reduceLT,ne_eq,Nat.reduceEqDiff,zNf],by simp only [zAU,zAT,sp_n,Nat.reduceLT,ne_eq,Nat.reduceEqDiff,zNf],by simp only [zAU,sp_n,Nat.reduceLT]; rfl⟩ ?_
  rintro k s G ⟨i,wa,hi,rfl,St,hn,s1,s5,s8,s10,s12,s13,s14,s15,s30,s31⟩ ih
  (repeat (first | refine Rn.seq hc ?_ | refine Rn.skip hc ?_ | refine Rn.block hc ?_ | refine Rn.inBlock hc ?_ | refine Rn.scope hc ?_ | refine Rn.inScope hc ?_))
  by_cases hlt : i < stem
  · have hd : decide ((i : Int) < (stem : Int)) = true := decide_eq_true (by omega)
    refine Rn.reg hc rfl ?_
    simp only [zAY,gd,zAX,rops,fx,zAK,zOi,zEl,s30,s31,hd]
    (repeat (first | refine Rn.seq hc ?_ | refine Rn.skip hc ?_ | refine Rn.block hc ?_ | refine Rn.inBlock hc ?_ | refine Rn.scope hc ?_ | refine Rn.inScope hc ?_))
    refine Rn.zAL hc rfl ?_
    simp only [zAY,zAU,Nat.reduceLT,Value.bool.injEq,zEl,hn]
    (repeat (first | refine Rn.seq hc ?_ | refine Rn.skip hc ?_ | refine Rn.block hc ?_ | refine Rn.inBlock hc ?_ | refine Rn.scope hc ?_ | refine Rn.inScope hc ?_))
    refine Rn.reg hc rfl ?_
    simp only [zAY,zAU,zAT,sp_n,Nat.reduceLT,ne_eq,Nat.reduceEqDiff,zNf,gd,zAX,rops,fx,zOi,zEl,hn,s31]
    (repeat (first | refine Rn.seq hc ?_ | refine Rn.skip hc ?_ | refine Rn.block hc ?_ | refine Rn.inBlock hc ?_ | refine Rn.scope hc ?_ | refine Rn.inScope hc ?_))
    refine Rn.region hc fun K hK => ?_
    refine Wo.run hc 3 rfl rfl rfl ?_
    simp (maxSteps := 2000000) only [List.drop_zero,List.take_succ_cons,List.take_zero,zAY,zAU,zAT,sp_n,Nat.reduceLT,ne_eq,Nat.reduceEqDiff,not_false_eq_true,gd,zAX,rops,fx,Nat.zero_add,Option.some.injEq,exists_eq_left',hn,s14,s15]
    refine Wo.call hc (by rfl) (by rfl) ⟨by rfl,by rfl⟩ (xs := [.int .i64 (i : Int),.pointer (some ⟨p13,0,none⟩),.pointer (some ⟨p8,0,none⟩),.pointer (some ⟨p9,0,none⟩),.pointer (some ⟨p5,0,none⟩)]) (by rfl) (by first | rfl | (simp only [zAY,zAU,zAT,sp_n,Nat.reduceLT,ne_eq,Nat.reduceEqDiff,zNf,hn]; done) | (simp only [zAY,zAU,zAT,sp_n,Nat.reduceLT,ne_eq,Nat.reduceEqDiff,zNf,hn]; rfl)) (by simp only [zAY,zAU,sp_n,Nat.reduceLT,List.map_cons,List.map_nil,List.nil_append,List.cons_append,hn]) (Con.mono (sum_next hV (by omega) hmi hlim hvq St (fun C1 h => hat C1 ((hAG St).trans (h.le (hAG St).next)) i (by omega))) ?_)
    rintro w G1 ⟨rfl,S1,-,-⟩
    obtain ⟨G2,e2,hz2,hn2,z2,-⟩ := box1 S1.wf (.int .i64 (scn (m : Int) a step i)) 3
    obtain ⟨G3,q3,n3,S3,-⟩ := sum_push (S1.nx hz2) hV.lS z2 (by omega)
    refine Wo.run hc 3 rfl rfl rfl ?_
    simp (maxSteps := 2000000) only [List.drop_zero,List.drop_succ_cons,List.take_succ_cons,List.take_zero,zAY,zAU,zAT,sp_n,Nat.reduceLT,ne_eq,Nat.reduceEqDiff,not_false_eq_true,gd,zAX,rops,fx,Option.some.injEq,exists_eq_left',Nat.reduceAdd,hn,bs22_1,zBY,e2,ae_apd,zBD,q3]
    refine Wo.done hc rfl (hK _ _ ?_)
    clear hK
    (repeat (first | refine Rn.seq hc ?_ | refine Rn.skip hc ?_ | refine Rn.block hc ?_ | refine Rn.inBlock hc ?_ | refine Rn.scope hc ?_ | refine Rn.inScope hc ?_))
    refine Rn.reg hc rfl ?_
    simp only [zAY,zAS,zAU,zAT,sp_n,Nat.reduceLT,ne_eq,Nat.reduceEqDiff,zNf,gd,zAX,rops,fx,zAC,zOi,zEl,hn,s31,zBW (show i < 9223372036854775807 by omega)]
    (repeat (first | refine Rn.seq hc ?_ | refine Rn.skip hc ?_ | refine Rn.block hc ?_ | refine Rn.inBlock hc ?_ | refine Rn.scope hc ?_ | refine Rn.inScope hc ?_))
    exact ih _ _ _ (by omega) ⟨i + 1,_,by omega,rfl,S3,by simp only [sp_n,hn],by simp only [zAT,ne_eq,Nat.reduceEqDiff,zNf,s1],by simp only [zAT,ne_eq,Nat.reduceEqDiff,zNf,s5],by simp only [zAT,ne_eq,Nat.reduceEqDiff,zNf,s8],by simp only [zAT,ne_eq,Nat.reduceEqDiff,zNf,s10],by simp only [zAT,ne_eq,Nat.reduceEqDiff,zNf,s12],by simp only [zAT,ne_eq,Nat.reduceEqDiff,zNf,s13],by simp only [zAT,ne_eq,Nat.reduceEqDiff,zNf,s14],by simp only [zAU,zAT,sp_n,Nat.reduceLT,ne_eq,Nat.reduceEqDiff,zNf,hn],by simp only [zAT,ne_eq,Nat.reduceEqDiff,zNf,s30],by simp only [zAU,sp_n,Nat.reduceLT,hn]⟩
  · have hd : decide ((i : Int) < (stem : Int)) = false := decide_eq_false (by omega)
    have hil : i = stem := by omega
    subst hil
    clear ih
    refine Rn.reg hc rfl ?_
    simp only [zAY,gd,zAX,rops,fx,zAK,zOi,zEl,s30,s31,hd]
    (repeat (first | refine Rn.seq hc ?_ | refine Rn.skip hc ?_ | refine Rn.block hc ?_ | refine Rn.inBlock hc ?_ | refine Rn.scope hc ?_ | refine Rn.inScope hc ?_))
    refine Rn.zAL hc rfl ?_
    simp only [zAY,zAU,Nat.reduceLT,Value.bool.injEq,zEl,hn]
    (repeat (first | refine Rn.seq hc ?_ | refine Rn.skip hc ?_ | refine Rn.block hc ?_ | refine Rn.inBlock hc ?_ | refine Rn.scope hc ?_ | refine Rn.inScope hc ?_))
    refine Rn.exit hc rfl ?_
    (repeat (first | refine Rn.seq hc ?_ | refine Rn.skip hc ?_ | refine Rn.block hc ?_ | refine Rn.inBlock hc ?_ | refine Rn.scope hc ?_ | refine Rn.inScope hc ?_))
    clear hd s30 s31
    obtain ⟨c,hcs,lG,hcv⟩ := St.arr
    have nCG := St.next
    have z8 : cl G p8 0 = some (.int .i64 (step : Int)) := (zAB (St.keep _ hV.l8.1 hV.l8.2)).trans h8
    have hcc : ∀ j,j < step → ∃ u : Int,c[j]? = some (.int .i64 u) := fun j hj => by
      obtain ⟨n,q1,q2,q3⟩ := cls_rep (M := i) hj
      exact ⟨_,by rw [← q3]; exact hcv n q1 q2⟩
    have hxT : Nx G.next G (G.push (.cells (Array.replicate step (.int .i64 0)) 3)) := (Nx.refl St.wf _).push (Nat.le_refl _) _
    have lT := zAM G (.cells (Array.replicate step (.int .i64 0)) 3)
    have hnT : (G.push (.cells (Array.replicate step (.int .i64 0)) 3)).next = G.next + 1 := rfl
    generalize eT : G.push (.cells (Array.replicate step (.int .i64 0)) 3) = G1 at hxT lT hnT
    have hbSG : bS < G.next := by have := hV.lS; omega
    obtain ⟨bT,hbT⟩ : ∃ b,b = G.next := ⟨_,rfl⟩
    rw [← hbT] at lT
    have lG1 : Canon.look G1.objs bS = _ := (hxT.keep _ hbSG).trans lG
    have hlen : c.toList.length = step := by rw [Array.length_toList]; exact hcs
    obtain ⟨G2,cT,q2,u2,hcT,hcTv⟩ := cpd_row (t := 22) (u := 22) (ty := 3) el22 (b := bT) (o := 0) (dl := step) (dc := step) (a := some ⟨bS,0,none⟩) (sn := step) (sc := step) (l := c.toList) (by rw [hlen]; exact (Nat.min_self _).symm) (.inr ⟨bS,0,rfl,fun j hj => by
      rw [Nat.zero_add,zCV lG1 rfl]
      simp⟩) (fun h => by cases h) lT rfl (by rw [hlen]; simp) (by
      rw [List.all_eq_true]
      intro x hx
      obtain ⟨j,hj,rfl⟩ := List.getElem_of_mem hx
      obtain ⟨u,hu⟩ := hcc j (by omega)
      have : c.toList[j] = .int .i64 u := by
        have h1 : c.toList[j]? = some (.int .i64 u) := by rw [Array.getElem?_toList]; exact hu
        rw [List.getElem?_eq_getElem hj] at h1
        exact Option.some.inj h1
      rw [this]
      rfl)
    have hcTs : ∀ n,i ≤ n → n < i + step → cT[n % step]? = some (.int .i64 (scY (m : Int) a step n)) := fun n h1 h2 => by
      have hl := Nat.mod_lt n (show 0 < step by omega)
      rw [hcTv,if_pos ⟨Nat.zero_le _,by rw [hlen]; omega⟩,Nat.sub_zero,Array.getElem?_toList]
      exact hcv n h1 h2
    have hcTz : cT.size = step := by rw [hcT]; simp
    have lT2 : Canon.look G2.objs bT = some ⟨.cells cT 3,false,0⟩ := by
      obtain ⟨c',t,f,g,e,r1,r2,_⟩ := u2.at'
      rw [lT] at r1
      cases r1
      exact r2
    have hGT : Nx G.next G G2 := hxT.trans (u2.nx hxT.wf (by omega))
    have hn2 := u2.next
    have z13 : cl G1 p13 0 = some (.slice (some ⟨bS,0,none⟩) step step) := (hxT.cl (by have := hV.l13.1; omega) 0).trans ((zAB (St.keep _ hV.l13.1 hV.l13.2)).trans h13)
    rw [hbT] at q2
    refine Rn.reg hc rfl ?_
    simp only [zAY,zAU,zAT,sp_n,Nat.reduceLT,ne_eq,Nat.reduceEqDiff,zNf,gd,zAX,rops,fx,ld,zAR,zOi,zEl,tk3,hn,s8,z8,ae_mk2,mk2_nat (show step ≤ 1000000 by omega),eT]
    (repeat (first | refine Rn.seq hc ?_ | refine Rn.skip hc ?_ | refine Rn.block hc ?_ | refine Rn.inBlock hc ?_ | refine Rn.scope hc ?_ | refine Rn.inScope hc ?_))
    refine Rn.reg hc rfl ?_
    simp only [zAY,zAU,zAT,sp_n,Nat.reduceLT,ne_eq,Nat.reduceEqDiff,zNf,gd,zAX,rops,fx,ld,zAR,zOi,zEl,tk22,hn,s13,z13,ae_cpd,q2]
    (repeat (first | refine Rn.seq hc ?_ | refine Rn.skip hc ?_ | refine Rn.block hc ?_ | refine Rn.inBlock hc ?_ | refine Rn.scope hc ?_ | refine Rn.inScope hc ?_))
    rw [← hbT]
    have St2 := St.nx hGT
    have hTne : ∀ y : Addr,wa = some y → y.block ≠ bT := fun y hy => by have := (St.lt hy).2; omega
    have hTC : C.next ≤ bT := by omega
    have hTG : bT < G2.next := by omega
    have hTS : bT ≠ bS := by omega
    clear q2 u2 hcTv hcT lT eT hxT hnT lG1 z13 z8 lG hcv hcc hcs hlen St hbSG hGT nCG hn2 hbT
    refine Rn.reg hc rfl ?_
    simp only [zAY,zAS,zAT,ne_eq,Nat.reduceEqDiff,zNf,gd,zAX,rops,fx,zOi,zEl,s12]
    (repeat (first | refine Rn.seq hc ?_ | refine Rn.skip hc ?_ | refine Rn.block hc ?_ | refine Rn.inBlock hc ?_ | refine Rn.scope hc ?_ | refine Rn.inScope hc ?_))
    refine Rn.loopI hc (I := fun k s G => ∃ j wa,j ≤ B ∧ k = B - j ∧ SumSt C bS (m : Int) a step G (i + j) (i + j) wa ∧ bT < G.next ∧ Canon.look G.objs bT = some ⟨.cells cT 3,false,0⟩ ∧ (∀ y : Addr,wa = some y → y.block ≠ bT) ∧ s.n = 113 ∧ sget s 1 = .int .i64 (i : Int) ∧ sget s 5 = .pointer (some ⟨p5,0,none⟩) ∧ sget s 10 = .pointer (some ⟨pR,0,none⟩) ∧ sget s 12 = .int .i64 (B : Int) ∧ sget s 13 = .pointer (some ⟨p13,0,none⟩) ∧ sget s 14 = .func (.func 111) #[] #[.pointer (some ⟨p13,0,none⟩),.pointer (some ⟨p8,0,none⟩),.pointer (some ⟨p9,0,none⟩),.pointer (some ⟨p5,0,none⟩)] ∧ sget s 15 = .slice wa (i + j) (i + j) ∧ sget s 17 = .slice (some ⟨bT,0,none⟩) step step ∧ sget s 46 = .int .i64 (B : Int) ∧ sget s 47 = .int .i64 (j : Int))
      (n := B) ⟨0,wa,by omega,rfl,St2,hTG,lT2,hTne,by simp only [sp_n,hn],by simp only [zAT,ne_eq,Nat.reduceEqDiff,zNf,s1],by simp only [zAT,ne_eq,Nat.reduceEqDiff,zNf,s5],by simp only [zAT,ne_eq,Nat.reduceEqDiff,zNf,s10],by simp only [zAT,ne_eq,Nat.reduceEqDiff,zNf,s12],by simp only [zAT,ne_eq,Nat.reduceEqDiff,zNf,s13],by simp only [zAT,ne_eq,Nat.reduceEqDiff,zNf,s14],by simp only [zAT,ne_eq,Nat.reduceEqDiff,zNf,s15,Nat.add_zero],by simp only [zAU,zAT,sp_n,Nat.reduceLT,ne_eq,Nat.reduceEqDiff,zNf,hn],by simp only [zAU,zAT,sp_n,Nat.reduceLT,ne_eq,Nat.reduceEqDiff,zNf,hn],by simp only [zAU,sp_n,Nat.reduceLT,hn]; rfl⟩ ?_
    clear hn s1 s5 s8 s10 s12 s13 s14 s15 s St2 hTG lT2 hTne G2 wa G1 G
    rintro k s G ⟨j,wa,hj,rfl,St,hTG,lT,hTne,hn,s1,s5,s10,s12,s13,s14,s15,s17,s46,s47⟩ ih
    (repeat (first | refine Rn.seq hc ?_ | refine Rn.skip hc ?_ | refine Rn.block hc ?_ | refine Rn.inBlock hc ?_ | refine Rn.scope hc ?_ | refine Rn.inScope hc ?_))
    by_cases hlj : j < B
    · have hd : decide ((j : Int) < (B : Int)) = true := decide_eq_true (by omega)
      have hwa : IntKind.i64.wrap ((i : Int) + (j : Int)) = ((i + j : Nat) : Int) := by rw [IntWalk.i64_in _ (by omega)]; omega
      refine Rn.reg hc rfl ?_
      simp only [zAY,gd,zAX,rops,fx,zAK,zOi,zEl,s46,s47,hd]
      (repeat (first | refine Rn.seq hc ?_ | refine Rn.skip hc ?_ | refine Rn.block hc ?_ | refine Rn.inBlock hc ?_ | refine Rn.scope hc ?_ | refine Rn.inScope hc ?_))
      refine Rn.zAL hc rfl ?_
      simp only [zAY,zAU,Nat.reduceLT,Value.bool.injEq,zEl,hn]
      (repeat (first | refine Rn.seq hc ?_ | refine Rn.skip hc ?_ | refine Rn.block hc ?_ | refine Rn.inBlock hc ?_ | refine Rn.scope hc ?_ | refine Rn.inScope hc ?_))
      refine Rn.reg hc rfl ?_
      simp only [zAY,zAU,zAT,sp_n,Nat.reduceLT,ne_eq,Nat.reduceEqDiff,zNf,gd,zAX,rops,fx,zOi,zEl,hn,s47]
      (repeat (first | refine Rn.seq hc ?_ | refine Rn.skip hc ?_ | refine Rn.block hc ?_ | refine Rn.inBlock hc ?_ | refine Rn.scope hc ?_ | refine Rn.inScope hc ?_))
      refine Rn.region hc fun K hK => ?_
      refine Wo.run hc 5 rfl rfl rfl ?_
      simp (maxSteps := 2000000) only [List.drop_zero,List.take_succ_cons,List.take_zero,zAY,zAU,zAT,sp_n,Nat.reduceLT,ne_eq,Nat.reduceEqDiff,not_false_eq_true,gd,zAX,rops,fx,zAC,Nat.zero_add,Option.some.injEq,exists_eq_left',hn,s1,s14,s15,hwa]
      refine Wo.call hc (by rfl) (by rfl) ⟨by rfl,by rfl⟩ (xs := [.int .i64 ((i + j : Nat) : Int),.pointer (some ⟨p13,0,none⟩),.pointer (some ⟨p8,0,none⟩),.pointer (some ⟨p9,0,none⟩),.pointer (some ⟨p5,0,none⟩)]) (by rfl) (by first | rfl | (simp only [zAY,zAU,zAT,sp_n,Nat.reduceLT,ne_eq,Nat.reduceEqDiff,zNf,hn]; done) | (simp only [zAY,zAU,zAT,sp_n,Nat.reduceLT,ne_eq,Nat.reduceEqDiff,zNf,hn]; rfl)) (by simp only [zAY,zAU,sp_n,Nat.reduceLT,List.map_cons,List.map_nil,List.nil_append,List.cons_append,hn]) (Con.mono (sum_next hV (by omega) hmi hlim hvq St (fun C1 h => hat C1 ((hAG St).trans (h.le (hAG St).next)) (i + j) (by omega))) ?_)
      rintro w G1 ⟨rfl,S1,hk1,hk2⟩
      obtain ⟨G2,e2,hz2,hn2,z2,-⟩ := box1 S1.wf (.int .i64 (scn (m : Int) a step (i + j))) 3
      obtain ⟨G3,q3,n3,S3,kp3⟩ := sum_push (S1.nx hz2) hV.lS z2 (by omega)
      refine Wo.run hc 3 rfl rfl rfl ?_
      simp (maxSteps := 2000000) only [List.drop_zero,List.drop_succ_cons,List.take_succ_cons,List.take_zero,zAY,zAU,zAT,sp_n,Nat.reduceLT,ne_eq,Nat.reduceEqDiff,not_false_eq_true,gd,zAX,rops,fx,Option.some.injEq,exists_eq_left',Nat.reduceAdd,hn,bs22_1,zBY,e2,ae_apd,zBD,q3]
      refine Wo.done hc rfl (hK _ _ ?_)
      clear hK
      (repeat (first | refine Rn.seq hc ?_ | refine Rn.skip hc ?_ | refine Rn.block hc ?_ | refine Rn.inBlock hc ?_ | refine Rn.scope hc ?_ | refine Rn.inScope hc ?_))
      refine Rn.reg hc rfl ?_
      simp only [zAY,zAS,zAU,zAT,sp_n,Nat.reduceLT,ne_eq,Nat.reduceEqDiff,zNf,gd,zAX,rops,fx,zAC,zOi,zEl,hn,s47,zBW (show j < 9223372036854775807 by omega)]
      (repeat (first | refine Rn.seq hc ?_ | refine Rn.skip hc ?_ | refine Rn.block hc ?_ | refine Rn.inBlock hc ?_ | refine Rn.scope hc ?_ | refine Rn.inScope hc ?_))
      exact ih _ _ _ (by omega) ⟨j + 1,_,by omega,rfl,S3,by omega,by rw [kp3 _ (by omega) (fun y hy => hTne y hy),hz2.keep _ (by omega),hk2 _ hTG hTS]; exact lT,fun y hy => by
        cases hy
        show G2.next ≠ bT
        omega,by simp only [sp_n,hn],by simp only [zAT,ne_eq,Nat.reduceEqDiff,zNf,s1],by simp only [zAT,ne_eq,Nat.reduceEqDiff,zNf,s5],by simp only [zAT,ne_eq,Nat.reduceEqDiff,zNf,s10],by simp only [zAT,ne_eq,Nat.reduceEqDiff,zNf,s12],by simp only [zAT,ne_eq,Nat.reduceEqDiff,zNf,s13],by simp only [zAT,ne_eq,Nat.reduceEqDiff,zNf,s14],by simp only [zAU,zAT,sp_n,Nat.reduceLT,ne_eq,Nat.reduceEqDiff,zNf,hn,Nat.add_assoc],by simp only [zAT,ne_eq,Nat.reduceEqDiff,zNf,s17],by simp only [zAT,ne_eq,Nat.reduceEqDiff,zNf,s46],by simp only [zAU,sp_n,Nat.reduceLT,hn]⟩
    · have hd : decide ((j : Int) < (B : Int)) = false := decide_eq_false (by omega)
      have hjl : j = B := by omega
      subst hjl
      clear ih
      refine Rn.reg hc rfl ?_
      simp only [zAY,gd,zAX,rops,fx,zAK,zOi,zEl,s46,s47,hd]
      (repeat (first | refine Rn.seq hc ?_ | refine Rn.skip hc ?_ | refine Rn.block hc ?_ | refine Rn.inBlock hc ?_ | refine Rn.scope hc ?_ | refine Rn.inScope hc ?_))
      refine Rn.zAL hc rfl ?_
      simp only [zAY,zAU,Nat.reduceLT,Value.bool.injEq,zEl,hn]
      (repeat (first | refine Rn.seq hc ?_ | refine Rn.skip hc ?_ | refine Rn.block hc ?_ | refine Rn.inBlock hc ?_ | refine Rn.scope hc ?_ | refine Rn.inScope hc ?_))
      refine Rn.exit hc rfl ?_
      (repeat (first | refine Rn.seq hc ?_ | refine Rn.skip hc ?_ | refine Rn.block hc ?_ | refine Rn.inBlock hc ?_ | refine Rn.scope hc ?_ | refine Rn.inScope hc ?_))
      clear hd s46 s47
      obtain ⟨c,hcs,lG,hcv⟩ := St.arr
      have nCG := St.next
      have hbSG : bS < G.next := by have := hV.lS; omega
      have z13 : cl G p13 0 = some (.slice (some ⟨bS,0,none⟩) step step) := (zAB (St.keep _ hV.l13.1 hV.l13.2)).trans h13
      have z5 : cl G p5 0 = some (.int .i64 (m : Int)) := (zAB (St.keep _ hV.l5.1 hV.l5.2)).trans h5
      have np5 : p5 < G.next := by have := hV.l5.1; omega
      obtain ⟨P,hPd⟩ : ∃ P : Nat → Nat,P = fun i' => ordN m (dC m a step j i i') := ⟨_,rfl⟩
      have hPv : ∀ i',P i' = ordN m (dC m a step j i i') := fun i' => by rw [hPd]
      have hPp : ∀ i',i' < step → 0 < P i' := fun i' _ => by rw [hPv]; exact ordN_pos (by omega)
      refine Rn.reg hc rfl ?_
      simp only [zAS,gd,zAX,rops,fx,zOi,zEl]
      (repeat (first | refine Rn.seq hc ?_ | refine Rn.skip hc ?_ | refine Rn.block hc ?_ | refine Rn.inBlock hc ?_ | refine Rn.scope hc ?_ | refine Rn.inScope hc ?_))
      refine Rn.reg hc rfl ?_
      simp only [zAY,zAS,zAU,zAT,sp_n,Nat.reduceLT,ne_eq,Nat.reduceEqDiff,zNf,gd,zAX,rops,fx,ld,lng,zAR,zOi,zEl,tk22,un22,hn,s13,z13]
      (repeat (first | refine Rn.seq hc ?_ | refine Rn.skip hc ?_ | refine Rn.block hc ?_ | refine Rn.inBlock hc ?_ | refine Rn.scope hc ?_ | refine Rn.inScope hc ?_))
      refine Rn.loopI hc (I := fun k s H => ∃ x,x ≤ step ∧ k = step - x ∧ Nx G.next G H ∧ lcmF P x ≤ 120 ∧ s.n = 113 ∧ sget s 1 = .int .i64 (i : Int) ∧ sget s 5 = .pointer (some ⟨p5,0,none⟩) ∧ sget s 10 = .pointer (some ⟨pR,0,none⟩) ∧ sget s 12 = .int .i64 (j : Int) ∧ sget s 14 = .func (.func 111) #[] #[.pointer (some ⟨p13,0,none⟩),.pointer (some ⟨p8,0,none⟩),.pointer (some ⟨p9,0,none⟩),.pointer (some ⟨p5,0,none⟩)] ∧ sget s 15 = .slice wa (i + j) (i + j) ∧ sget s 17 = .slice (some ⟨bT,0,none⟩) step step ∧ sget s 19 = .int .i64 ((lcmF P x : Nat) : Int) ∧ sget s 59 = .slice (some ⟨bS,0,none⟩) step step ∧ sget s 60 = .int .i64 (step : Int) ∧ sget s 61 = .int .i64 (x : Int))
        (n := step) ⟨0,by omega,rfl,Nx.refl St.wf _,by show 1 ≤ 120; omega,by simp only [sp_n,hn],by simp only [zAT,ne_eq,Nat.reduceEqDiff,zNf,s1],by simp only [zAT,ne_eq,Nat.reduceEqDiff,zNf,s5],by simp only [zAT,ne_eq,Nat.reduceEqDiff,zNf,s10],by simp only [zAT,ne_eq,Nat.reduceEqDiff,zNf,s12],by simp only [zAT,ne_eq,Nat.reduceEqDiff,zNf,s14],by simp only [zAT,ne_eq,Nat.reduceEqDiff,zNf,s15],by simp only [zAT,ne_eq,Nat.reduceEqDiff,zNf,s17],by simp only [zAU,zAT,sp_n,Nat.reduceLT,ne_eq,Nat.reduceEqDiff,zNf,hn]; rfl,by simp only [zAU,zAT,sp_n,Nat.reduceLT,ne_eq,Nat.reduceEqDiff,zNf,hn],by simp only [zAU,zAT,sp_n,Nat.reduceLT,ne_eq,Nat.reduceEqDiff,zNf,hn],by simp only [zAU,sp_n,Nat.reduceLT,hn]; rfl⟩ ?_
      clear hn s1 s5 s10 s12 s13 s14 s15 s17 s
      rintro k s H ⟨x,hx',rfl,hH,h120,hn,s1,s5,s10,s12,s14,s15,s17,s19,s59,s60,s61⟩ ih
      have nH := hH.next
      (repeat (first | refine Rn.seq hc ?_ | refine Rn.skip hc ?_ | refine Rn.block hc ?_ | refine Rn.inBlock hc ?_ | refine Rn.scope hc ?_ | refine Rn.inScope hc ?_))
      by_cases hlx : x < step
      · have hd : decide ((x : Int) < (step : Int)) = true := decide_eq_true (by omega)
        obtain ⟨n,r1,r2,r3⟩ := cls_rep (M := i) hlx
        have hcb := hcv (n + j) (by omega) (by omega)
        have hct := hcTs n r1 r2
        have hmod : (n + j) % step = x := by
          obtain ⟨q,rfl⟩ := hdvS
          rw [Nat.add_mul_mod_self_left,r3]
        rw [hmod] at hcb
        rw [r3] at hct
        have zS : cl H bS x = some (.int .i64 (scY (m : Int) a step (n + j))) := (hH.cl hbSG x).trans (by rw [zCV lG rfl]; exact hcb)
        have zT : cl H bT x = some (.int .i64 (scY (m : Int) a step n)) := (hH.cl hTG x).trans (by rw [zCV lT rfl]; exact hct)
        have zM : cl H p5 0 = some (.int .i64 (m : Int)) := (hH.cl np5 0).trans z5
        have v1 := scY_lim (a := a) (step := step) hmi.1 (n + j)
        have v2 := scY_lim (a := a) (step := step) hmi.1 n
        have hws : IntKind.i64.wrap (scY (m : Int) a step (n + j) - scY (m : Int) a step n) = scY (m : Int) a step (n + j) - scY (m : Int) a step n := IntWalk.i64_in _ ⟨by omega,by omega⟩
        obtain ⟨d,hdd⟩ : ∃ d,d = dC m a step j i x := ⟨_,rfl⟩
        have hde : (d : Int) = nrm (scY (m : Int) a step (n + j) - scY (m : Int) a step n) (m : Int) := by
          have := dC_eq (a := a) (step := step) (B := j) (N := i) (show 0 < m by omega) (by omega) hP' r1
          rw [hdd,nrm_mod _ hmi.1,← r3,this]
          rfl
        have hdm : d < m := by
          have := (nrm_lim (scY (m : Int) a step (n + j) - scY (m : Int) a step n) hmi.1).2
          omega
        have hPx : P x = m / Nat.gcd m d := by rw [hPv,hdd]; rfl
        have hg0 : 0 < Nat.gcd m d := Nat.gcd_pos_of_pos_left _ (by omega)
        have hT0 : 0 < lcmF P x := lcmF_pos hPp hx'
        have hPle : P x ≤ m := by rw [hPx]; exact Nat.div_le_self _ _
        refine Rn.reg hc rfl ?_
        simp only [zAY,gd,zAX,rops,fx,zAK,zOi,zEl,s60,s61,hd]
        (repeat (first | refine Rn.seq hc ?_ | refine Rn.skip hc ?_ | refine Rn.block hc ?_ | refine Rn.inBlock hc ?_ | refine Rn.scope hc ?_ | refine Rn.inScope hc ?_))
        refine Rn.zAL hc rfl ?_
        simp only [zAY,zAU,Nat.reduceLT,Value.bool.injEq,zEl,hn]
        (repeat (first | refine Rn.seq hc ?_ | refine Rn.skip hc ?_ | refine Rn.block hc ?_ | refine Rn.inBlock hc ?_ | refine Rn.scope hc ?_ | refine Rn.inScope hc ?_))
        refine Rn.reg hc rfl ?_
        simp only [zAY,zAU,zAT,sp_n,Nat.reduceLT,ne_eq,Nat.reduceEqDiff,zNf,gd,zAX,rops,fx,ld,idx,zAR,Nat.zero_add,zOi,zEl,Nat.mul_one,tk3,eo22,hn,s59,s61,zAP hlx,zS]
        (repeat (first | refine Rn.seq hc ?_ | refine Rn.skip hc ?_ | refine Rn.block hc ?_ | refine Rn.inBlock hc ?_ | refine Rn.scope hc ?_ | refine Rn.inScope hc ?_))
        obtain ⟨F,hFb,hF⟩ : ∃ F : AHeap → Prop,(∀ M,F M → ∀ b,b < H.next → ∀ o,cl M b o = cl H b o) ∧ (∀ M,Nx H.next H M → F M) := ⟨fun M => Nx H.next H M,fun M h b hb o => h.cl hb o,fun _ h => h⟩
        have FT := fun M hM => (hFb M hM bT (by omega) x).trans zT
        have FM := fun M hM => (hFb M hM p5 (by omega) 0).trans zM
        have hbk : Nx H.next H (bump H 16) := Nx.bump (Nx.refl hH.wf _) 16
        have FB := hF _ hbk
        refine Rn.drawnF hc hx (smS d (Nat.gcd m d) (lcmF P (x + 1))) F (n := 4) (k := 16) (by kernel_rfl) (by kernel_rfl) (by rfl) ?_
        refine Dr.read (by first | rfl | kernel_rfl) (by rfl) (by assumption) (fun M hM => by simp only [zAY,zAT,ne_eq,Nat.reduceEqDiff,zNf,fx,s19] <;> rfl) (by rfl) (by first | exact VQ.int _ _ | exact VQ.bool _ | exact VQ.ptr _ _ | exact VQ.slice _ _ _ | exact VQ.func (by simp [zAW,zAV,zAZ]) (by simp [zAW,zAV,zAZ]) | exact VQ.agg (by simp [zAW,zAV,zAZ]) | exact VQ.tuple (by simp [zAW,zAV,zAZ])) ?_
        refine Dr.read (by first | rfl | kernel_rfl) (by rfl) (by assumption) (fun M hM => by simp only [zAY,zAT,ne_eq,Nat.reduceEqDiff,zNf,fx,ld,zAR,tk3,s5,FM M hM] <;> rfl) (by rfl) (by first | exact VQ.int _ _ | exact VQ.bool _ | exact VQ.ptr _ _ | exact VQ.slice _ _ _ | exact VQ.func (by simp [zAW,zAV,zAZ]) (by simp [zAW,zAV,zAZ]) | exact VQ.agg (by simp [zAW,zAV,zAZ]) | exact VQ.tuple (by simp [zAW,zAV,zAZ])) ?_
        refine Dr.read (by first | rfl | kernel_rfl) (by rfl) (by assumption) (fun M hM => by simp only [zAY,zAT,ne_eq,Nat.reduceEqDiff,zNf,fx,ld,zAR,tk3,s5,FM M hM] <;> rfl) (by rfl) (by first | exact VQ.int _ _ | exact VQ.bool _ | exact VQ.ptr _ _ | exact VQ.slice _ _ _ | exact VQ.func (by simp [zAW,zAV,zAZ]) (by simp [zAW,zAV,zAZ]) | exact VQ.agg (by simp [zAW,zAV,zAZ]) | exact VQ.tuple (by simp [zAW,zAV,zAZ])) ?_
        refine Dr.read (by first | rfl | kernel_rfl) (by rfl) (by assumption) (fun M hM => by simp only [zAY,zAU,zAT,sp_n,Nat.reduceLT,ne_eq,Nat.reduceEqDiff,zNf,fx,hn] <;> rfl) (by rfl) (by first | exact VQ.int _ _ | exact VQ.bool _ | exact VQ.ptr _ _ | exact VQ.slice _ _ _ | exact VQ.func (by simp [zAW,zAV,zAZ]) (by simp [zAW,zAV,zAZ]) | exact VQ.agg (by simp [zAW,zAV,zAZ]) | exact VQ.tuple (by simp [zAW,zAV,zAZ])) ?_
        refine Dr.read (by first | rfl | kernel_rfl) (by rfl) (by assumption) (fun M hM => by simp only [zAY,zAT,ne_eq,Nat.reduceEqDiff,zNf,fx,s17] <;> rfl) (by rfl) (by first | exact VQ.int _ _ | exact VQ.bool _ | exact VQ.ptr _ _ | exact VQ.slice _ _ _ | exact VQ.func (by simp [zAW,zAV,zAZ]) (by simp [zAW,zAV,zAZ]) | exact VQ.agg (by simp [zAW,zAV,zAZ]) | exact VQ.tuple (by simp [zAW,zAV,zAZ])) ?_
        refine Dr.read (by first | rfl | kernel_rfl) (by rfl) (by assumption) (fun M hM => by simp only [zAY,zAU,zAT,sp_n,Nat.reduceLT,ne_eq,Nat.reduceEqDiff,zNf,fx,hn] <;> rfl) (by rfl) (by first | exact VQ.int _ _ | exact VQ.bool _ | exact VQ.ptr _ _ | exact VQ.slice _ _ _ | exact VQ.func (by simp [zAW,zAV,zAZ]) (by simp [zAW,zAV,zAZ]) | exact VQ.agg (by simp [zAW,zAV,zAZ]) | exact VQ.tuple (by simp [zAW,zAV,zAZ])) ?_
        refine Dr.read (by first | rfl | kernel_rfl) (by rfl) (by assumption) (fun M hM => by simp only [zAY,zAU,zAT,sp_n,Nat.reduceLT,ne_eq,Nat.reduceEqDiff,zNf,fx,idx,Nat.zero_add,Nat.mul_one,eo22,hn,zAP hlx] <;> rfl) (by rfl) (by first | exact VQ.int _ _ | exact VQ.bool _ | exact VQ.ptr _ _ | exact VQ.slice _ _ _ | exact VQ.func (by simp [zAW,zAV,zAZ]) (by simp [zAW,zAV,zAZ]) | exact VQ.agg (by simp [zAW,zAV,zAZ]) | exact VQ.tuple (by simp [zAW,zAV,zAZ])) ?_
        refine Dr.read (by first | rfl | kernel_rfl) (by rfl) (by assumption) (fun M hM => by simp only [zAY,zAU,sp_n,Nat.reduceLT,fx,ld,zAR,tk3,hn,FT M hM] <;> rfl) (by rfl) (by first | exact VQ.int _ _ | exact VQ.bool _ | exact VQ.ptr _ _ | exact VQ.slice _ _ _ | exact VQ.func (by simp [zAW,zAV,zAZ]) (by simp [zAW,zAV,zAZ]) | exact VQ.agg (by simp [zAW,zAV,zAZ]) | exact VQ.tuple (by simp [zAW,zAV,zAZ])) ?_
        refine Dr.read (by first | rfl | kernel_rfl) (by rfl) (by assumption) (fun M hM => by simp only [zAY,zAU,zAT,sp_n,Nat.reduceLT,ne_eq,Nat.reduceEqDiff,zNf,fx,zBK,hn,hws] <;> rfl) (by rfl) (by first | exact VQ.int _ _ | exact VQ.bool _ | exact VQ.ptr _ _ | exact VQ.slice _ _ _ | exact VQ.func (by simp [zAW,zAV,zAZ]) (by simp [zAW,zAV,zAZ]) | exact VQ.agg (by simp [zAW,zAV,zAZ]) | exact VQ.tuple (by simp [zAW,zAV,zAZ])) ?_
        refine Dr.read (by first | rfl | kernel_rfl) (by rfl) (by assumption) (fun M hM => by simp only [zAY,zAT,ne_eq,Nat.reduceEqDiff,zNf,fx,ld,zAR,tk3,s5,FM M hM] <;> rfl) (by rfl) (by first | exact VQ.int _ _ | exact VQ.bool _ | exact VQ.ptr _ _ | exact VQ.slice _ _ _ | exact VQ.func (by simp [zAW,zAV,zAZ]) (by simp [zAW,zAV,zAZ]) | exact VQ.agg (by simp [zAW,zAV,zAZ]) | exact VQ.tuple (by simp [zAW,zAV,zAZ])) ?_
        refine Dr.call (by kernel_rfl) (by rfl) (by assumption) (by rfl) (zBU (by rfl) ⟨by rfl,by rfl⟩ (by rfl) (xs := [.int .i64 (scY (m : Int) a step (n + j) - scY (m : Int) a step n),.int .i64 (m : Int)]) (by simp only [zAY,zAU,zAT,sp_n,Nat.reduceLT,ne_eq,Nat.reduceEqDiff,zNf,List.map_cons,List.map_nil,List.nil_append,List.append_nil,hn]) (Con.mono (norm_run hbk.wf hmi) fun v A1 h => (⟨by rw [h.1,hde],h.2⟩ : v = .int .i64 (d : Int) ∧ Nx (bump H 16).next (bump H 16) A1))) ?_
        rintro v M1 ⟨rfl,k1⟩
        have hM1 : Nx H.next H M1 := hbk.trans (k1.le hbk.next)
        have FM1 := hF _ hM1
        refine Dr.call (by kernel_rfl) (by rfl) (by assumption) (by rfl) (zBU (by rfl) ⟨by rfl,by rfl⟩ (by rfl) (xs := [.int .i64 (m : Int),.int .i64 (d : Int)]) (by simp only [zAY,zAU,zAT,sp_n,Nat.reduceLT,ne_eq,Nat.reduceEqDiff,zNf,List.map_cons,List.map_nil,List.nil_append,List.append_nil,hn]) (Con.mono (gcd_run hM1.wf (a := m) (b := d) (by omega) (by omega)) fun v A1 h => (h : v = .int .i64 ((Nat.gcd m d : Nat) : Int) ∧ Nx M1.next M1 A1))) ?_
        rintro v M2 ⟨rfl,k2⟩
        have hM2 : Nx H.next H M2 := hM1.trans (k2.le hM1.next)
        have FM2 := hF _ hM2
        have hnM2 := hM1.next
        have hk1n := k1.next
        rw [zAH] at hk1n
        have hk2n := k2.next
        have hq : ∀ M,bin Try.prog .quo 3 (.int .i64 (m : Int)) (.int .i64 ((Nat.gcd m d : Nat) : Int)) M = some (.int .i64 (P x : Int),M) := fun M => by rw [quo_nat hg0 (by omega),hPx]
        refine Dr.read (by first | rfl | kernel_rfl) (by rfl) (by assumption) (fun M hM => by simp only [zAY,zAU,zAT,sp_n,Nat.reduceLT,ne_eq,Nat.reduceEqDiff,zNf,fx,hn,hq] <;> rfl) (by rfl) (by first | exact VQ.int _ _ | exact VQ.bool _ | exact VQ.ptr _ _ | exact VQ.slice _ _ _ | exact VQ.func (by simp [zAW,zAV,zAZ]) (by simp [zAW,zAV,zAZ]) | exact VQ.agg (by simp [zAW,zAV,zAZ]) | exact VQ.tuple (by simp [zAW,zAV,zAZ])) ?_
        refine Dr.float (by rfl) (by rfl) (by rfl) (fb22_2 (v := .int .i64 ((lcmF P x : Nat) : Int)) (w := .int .i64 (P x : Int)) (by simp only [zAY,zAU,zAT,sp_n,Nat.reduceLT,ne_eq,Nat.reduceEqDiff,zNf,hn]) rfl (by simp only [zAY,zAU,sp_n,Nat.reduceLT,hn]) rfl) ?_
        have hnb : Canon.look M2.objs (H.next + 13) = none := by
          rw [k2.keep _ (by omega),k1.keep _ (by rw [zAH]; omega)]
          exact hH.wf.none (by omega)
        obtain ⟨M3,p3,hxM3,eM3,lM3,kM3⟩ := zCP (N := H.next) hM2 (b := H.next + 13) (by omega) (by omega) hnb [.int .i64 ((lcmF P x : Nat) : Int),.int .i64 (P x : Int)] 3 2 2
        refine Dr.callF (by kernel_rfl) (by rfl) (pd1 := [(13,⟨[.int .i64 ((lcmF P x : Nat) : Int),.int .i64 (P x : Int)],3,.sl 2 2⟩)]) (pd2 := []) (by kernel_rfl) (by kernel_rfl) (ms0 := [M2]) (A0 := M3) (by simp only [zBS,p3]) (fun M hM => by rw [List.mem_singleton] at hM; rw [hM]; exact FM2) (hF _ hxM3) (by rfl)
          (zBU (by rfl) ⟨by rfl,by rfl⟩ (by rfl) (xs := [.slice (some ⟨H.next + 13,0,none⟩) 2 2]) (by simp only [zAY,zAU,sp_n,Nat.reduceLT,List.map_cons,List.map_nil,List.nil_append,List.append_nil,hn,FK.val]) (Con.mono (lcm_two hxM3.wf (x := lcmF P x) (y := P x) (by rw [zCV lM3 rfl]; rfl) (by rw [zCV lM3 rfl]; rfl) (by omega) ⟨hT0,by omega⟩ ⟨hPp x hlx,by omega⟩) fun v A1 h => (h : v = .int .i64 ((lcmF P (x + 1) : Nat) : Int) ∧ Nx M3.next M3 A1))) ?_
        rintro v M4 ⟨rfl,k4⟩
        have hM4 : Nx H.next H M4 := hxM3.trans (k4.le hxM3.next)
        have FM4 := hF _ hM4
        refine Dr.read (by first | rfl | kernel_rfl) (by rfl) (by assumption) (fun M hM => by simp only [zAY,zAU,sp_n,Nat.reduceLT,fx,Nat.zero_add,Nat.reduceAdd,hn] <;> rfl) (by rfl) (by first | exact VQ.int _ _ | exact VQ.bool _ | exact VQ.ptr _ _ | exact VQ.slice _ _ _ | exact VQ.func (by simp [zAW,zAV,zAZ]) (by simp [zAW,zAV,zAZ]) | exact VQ.agg (by simp [zAW,zAV,zAZ]) | exact VQ.tuple (by simp [zAW,zAV,zAZ])) ?_
        refine Dr.nil (by rfl) (fun M hM => by cases hM) FM4 ⟨M4,by rfl,?_⟩
        (repeat (first | refine Rn.seq hc ?_ | refine Rn.skip hc ?_ | refine Rn.block hc ?_ | refine Rn.inBlock hc ?_ | refine Rn.scope hc ?_ | refine Rn.inScope hc ?_))
        have hG4 : Nx G.next G M4 := hH.trans (hM4.le nH)
        by_cases hlong : 120 < lcmF P (x + 1)
        · have hd2 : decide (120 < ((lcmF P (x + 1) : Nat) : Int)) = true := decide_eq_true (by omega)
          have hA4 : Nx A.next A M4 := (hAG St).trans (hG4.le (hAG St).next)
          obtain ⟨D,q1,g0,g1,g2,hxD⟩ := err_fin hA4 hpRA (by have := hG4.next; omega) ((hG4.keep _ (by omega)).trans ((St.keep _ hpRC hpRS).trans lR))
          refine Rn.reg hc rfl ?_
          simp only [zAY,zAS,zAU,sp_n,Nat.reduceLT,gd,zAX,rops,fx,zBX,Nat.zero_add,zOi,zEl,Nat.reduceAdd,hn,hd2]
          (repeat (first | refine Rn.seq hc ?_ | refine Rn.skip hc ?_ | refine Rn.block hc ?_ | refine Rn.inBlock hc ?_ | refine Rn.scope hc ?_ | refine Rn.inScope hc ?_))
          refine Rn.zAL hc rfl ?_
          simp only [zAY,zAU,sp_n,Nat.reduceLT,Value.bool.injEq,zEl,hn]
          (repeat (first | refine Rn.seq hc ?_ | refine Rn.skip hc ?_ | refine Rn.block hc ?_ | refine Rn.inBlock hc ?_ | refine Rn.scope hc ?_ | refine Rn.inScope hc ?_))
          refine Rn.reg hc rfl ?_
          simp only [zAY,zAS,zAU,zAT,sp_n,zAO,Nat.reduceLT,ne_eq,Nat.reduceEqDiff,zNf,gd,zAX,rops,fx,str,zAR,Nat.zero_add,zOi,zEl,Nat.reduceAdd,tk24,hn,s10,bd24_z,q1,List.size_toArray,List.length_cons,List.length_nil,Nat.beq_refl]
          (repeat (first | refine Rn.seq hc ?_ | refine Rn.skip hc ?_ | refine Rn.block hc ?_ | refine Rn.inBlock hc ?_ | refine Rn.scope hc ?_ | refine Rn.inScope hc ?_))
          refine Rn.ret (zBR rfl (v := .agg #[.int .i64 0,.slice none 0 0,.slice none 0 0]) ?_ ?_)
          · simp only [zAT,ne_eq,Nat.reduceEqDiff,zNf,ld,zAR,cls,Nat.zero_add,Nat.reduceAdd,tk24,s10,g0,g1,g2]
          · simp only [zAU,sp_n,Nat.reduceLT,hn]
            refine tld_tp (tp_long (scn_per_m (show 0 < m by omega) (by omega) f1 hdvS hP') fun b p hr => long_run (show 0 < m by omega) (by omega) f1 hdvS hP' (i := x + 1) (by omega) ?_ hr) hxD
            rw [hPd] at hlong
            exact hlong
        · have hd2 : decide (120 < ((lcmF P (x + 1) : Nat) : Int)) = false := decide_eq_false (by omega)
          refine Rn.reg hc rfl ?_
          simp only [zAY,zAS,zAU,sp_n,Nat.reduceLT,gd,zAX,rops,fx,zBX,Nat.zero_add,zOi,zEl,Nat.reduceAdd,hn,hd2]
          (repeat (first | refine Rn.seq hc ?_ | refine Rn.skip hc ?_ | refine Rn.block hc ?_ | refine Rn.inBlock hc ?_ | refine Rn.scope hc ?_ | refine Rn.inScope hc ?_))
          refine Rn.zAL hc rfl ?_
          simp only [zAY,zAU,sp_n,Nat.reduceLT,Value.bool.injEq,zEl,hn]
          (repeat (first | refine Rn.seq hc ?_ | refine Rn.skip hc ?_ | refine Rn.block hc ?_ | refine Rn.inBlock hc ?_ | refine Rn.scope hc ?_ | refine Rn.inScope hc ?_))
          refine Rn.reg hc rfl ?_
          simp only [zAY,zAS,zAU,zAT,sp_n,Nat.reduceLT,ne_eq,Nat.reduceEqDiff,zNf,gd,zAX,rops,fx,zAC,zOi,zEl,hn,s61,zBW (show x < 9223372036854775807 by omega)]
          (repeat (first | refine Rn.seq hc ?_ | refine Rn.skip hc ?_ | refine Rn.block hc ?_ | refine Rn.inBlock hc ?_ | refine Rn.scope hc ?_ | refine Rn.inScope hc ?_))
          exact ih _ _ _ (by omega) ⟨x + 1,by omega,rfl,hG4,by omega,by simp only [sp_n,hn],by simp only [zAT,ne_eq,Nat.reduceEqDiff,zNf,s1],by simp only [zAT,ne_eq,Nat.reduceEqDiff,zNf,s5],by simp only [zAT,ne_eq,Nat.reduceEqDiff,zNf,s10],by simp only [zAT,ne_eq,Nat.reduceEqDiff,zNf,s12],by simp only [zAT,ne_eq,Nat.reduceEqDiff,zNf,s14],by simp only [zAT,ne_eq,Nat.reduceEqDiff,zNf,s15],by simp only [zAT,ne_eq,Nat.reduceEqDiff,zNf,s17],by simp only [zAU,zAT,sp_n,Nat.reduceLT,ne_eq,Nat.reduceEqDiff,zNf,hn],by simp only [zAT,ne_eq,Nat.reduceEqDiff,zNf,s59],by simp only [zAT,ne_eq,Nat.reduceEqDiff,zNf,s60],by simp only [zAU,sp_n,Nat.reduceLT,hn]⟩
      · have hd : decide ((x : Int) < (step : Int)) = false := decide_eq_false (by omega)
        have hxs : x = step := by omega
        subst hxs
        clear ih
        refine Rn.reg hc rfl ?_
        simp only [zAY,gd,zAX,rops,fx,zAK,zOi,zEl,s60,s61,hd]
        (repeat (first | refine Rn.seq hc ?_ | refine Rn.skip hc ?_ | refine Rn.block hc ?_ | refine Rn.inBlock hc ?_ | refine Rn.scope hc ?_ | refine Rn.inScope hc ?_))
        refine Rn.zAL hc rfl ?_
        simp only [zAY,zAU,Nat.reduceLT,Value.bool.injEq,zEl,hn]
        (repeat (first | refine Rn.seq hc ?_ | refine Rn.skip hc ?_ | refine Rn.block hc ?_ | refine Rn.inBlock hc ?_ | refine Rn.scope hc ?_ | refine Rn.inScope hc ?_))
        refine Rn.exit hc rfl ?_
        (repeat (first | refine Rn.seq hc ?_ | refine Rn.skip hc ?_ | refine Rn.block hc ?_ | refine Rn.inBlock hc ?_ | refine Rn.scope hc ?_ | refine Rn.inScope hc ?_))
        have hT0 : 0 < lcmF P x := lcmF_pos hPp (Nat.le_refl _)
        have hTd : ∀ i',i' < x → ordN m (dC m a x j i i') ∣ lcmF P x := fun i' hi' => by rw [← hPv]; exact lcmF_dvd hi'
        have St4 := St.nx hH
        generalize lcmF P x = T at hT0 hTd h120 s19
        have hPerY := scn_per (show 0 < m by omega) (show 0 < x by omega) f1 hdvS hP' hT0 hTd
        have hTB : j * (T - 1) ≤ 14400 * 120 := Nat.mul_le_mul (by omega) (by omega)
        have hsum : j + j * (T - 1) = T * j := by
          obtain ⟨t',rfl⟩ : ∃ t',T = t' + 1 := ⟨T - 1,by omega⟩
          rw [Nat.add_sub_cancel,Nat.succ_mul,Nat.mul_comm]
          omega
        have hw1 : IntKind.i64.wrap ((T : Int) - 1) = ((T - 1 : Nat) : Int) := by rw [IntWalk.i64_in _ (by omega)]; omega
        have hw2 : IntKind.i64.wrap ((j : Int) * ((T - 1 : Nat) : Int)) = ((j * (T - 1) : Nat) : Int) := by rw [← Int.natCast_mul,IntWalk.i64_in _ (by omega)]
        clear hd s59 s60 s61 s17 hPv hPp hPd P hTd
        refine Rn.reg hc rfl ?_
        simp only [zAY,zAS,zAU,zAT,sp_n,Nat.reduceLT,ne_eq,Nat.reduceEqDiff,zNf,gd,zAX,rops,fx,zBK,bin_mul,zOi,zEl,hn,s12,s19,hw1,hw2]
        (repeat (first | refine Rn.seq hc ?_ | refine Rn.skip hc ?_ | refine Rn.block hc ?_ | refine Rn.inBlock hc ?_ | refine Rn.scope hc ?_ | refine Rn.inScope hc ?_))
        generalize j * (T - 1) = Q at hTB hsum ⊢
        refine Rn.loopI hc (I := fun k s G => ∃ y wa,y ≤ Q ∧ k = Q - y ∧ SumSt C bS (m : Int) a x G (i + j + y) (i + j + y) wa ∧ s.n = 113 ∧ sget s 1 = .int .i64 (i : Int) ∧ sget s 5 = .pointer (some ⟨p5,0,none⟩) ∧ sget s 10 = .pointer (some ⟨pR,0,none⟩) ∧ sget s 12 = .int .i64 (j : Int) ∧ sget s 14 = .func (.func 111) #[] #[.pointer (some ⟨p13,0,none⟩),.pointer (some ⟨p8,0,none⟩),.pointer (some ⟨p9,0,none⟩),.pointer (some ⟨p5,0,none⟩)] ∧ sget s 15 = .slice wa (i + j + y) (i + j + y) ∧ sget s 88 = .int .i64 (Q : Int) ∧ sget s 89 = .int .i64 (y : Int))
          (n := Q) ⟨0,wa,by omega,rfl,St4,by simp only [sp_n,hn],by simp only [zAT,ne_eq,Nat.reduceEqDiff,zNf,s1],by simp only [zAT,ne_eq,Nat.reduceEqDiff,zNf,s5],by simp only [zAT,ne_eq,Nat.reduceEqDiff,zNf,s10],by simp only [zAT,ne_eq,Nat.reduceEqDiff,zNf,s12],by simp only [zAT,ne_eq,Nat.reduceEqDiff,zNf,s14],by simp only [zAT,ne_eq,Nat.reduceEqDiff,zNf,s15,Nat.add_zero],by simp only [zAU,zAT,sp_n,Nat.reduceLT,ne_eq,Nat.reduceEqDiff,zNf,hn],by simp only [zAU,sp_n,Nat.reduceLT,hn]; rfl⟩ ?_
        clear hn s1 s5 s10 s12 s14 s15 s19 s St4 St hH nH z13 z5 np5 hbSG nCG lG hcv hcs hTne lT hTG hw1 hw2
        clear wa H G
        rintro k s G ⟨y,wa,hy,rfl,St,hn,s1,s5,s10,s12,s14,s15,s88,s89⟩ ih
        (repeat (first | refine Rn.seq hc ?_ | refine Rn.skip hc ?_ | refine Rn.block hc ?_ | refine Rn.inBlock hc ?_ | refine Rn.scope hc ?_ | refine Rn.inScope hc ?_))
        by_cases hly : y < Q
        · have hd : decide ((y : Int) < (Q : Int)) = true := decide_eq_true (by omega)
          have hwa : IntKind.i64.wrap ((i : Int) + (j : Int)) = ((i + j : Nat) : Int) := by rw [IntWalk.i64_in _ (by omega)]; omega
          have hwb : IntKind.i64.wrap (((i + j : Nat) : Int) + (y : Int)) = ((i + j + y : Nat) : Int) := by rw [IntWalk.i64_in _ (by omega)]; omega
          refine Rn.reg hc rfl ?_
          simp only [zAY,gd,zAX,rops,fx,zAK,zOi,zEl,s88,s89,hd]
          (repeat (first | refine Rn.seq hc ?_ | refine Rn.skip hc ?_ | refine Rn.block hc ?_ | refine Rn.inBlock hc ?_ | refine Rn.scope hc ?_ | refine Rn.inScope hc ?_))
          refine Rn.zAL hc rfl ?_
          simp only [zAY,zAU,Nat.reduceLT,Value.bool.injEq,zEl,hn]
          (repeat (first | refine Rn.seq hc ?_ | refine Rn.skip hc ?_ | refine Rn.block hc ?_ | refine Rn.inBlock hc ?_ | refine Rn.scope hc ?_ | refine Rn.inScope hc ?_))
          refine Rn.reg hc rfl ?_
          simp only [zAY,zAU,zAT,sp_n,Nat.reduceLT,ne_eq,Nat.reduceEqDiff,zNf,gd,zAX,rops,fx,zOi,zEl,hn,s89]
          (repeat (first | refine Rn.seq hc ?_ | refine Rn.skip hc ?_ | refine Rn.block hc ?_ | refine Rn.inBlock hc ?_ | refine Rn.scope hc ?_ | refine Rn.inScope hc ?_))
          refine Rn.region hc fun K hK => ?_
          refine Wo.run hc 7 rfl rfl rfl ?_
          simp (maxSteps := 2000000) only [List.drop_zero,List.take_succ_cons,List.take_zero,zAY,zAU,zAT,sp_n,Nat.reduceLT,ne_eq,Nat.reduceEqDiff,not_false_eq_true,gd,zAX,rops,fx,zAC,Nat.zero_add,Option.some.injEq,exists_eq_left',hn,s1,s12,s14,s15,hwa,hwb]
          refine Wo.call hc (by rfl) (by rfl) ⟨by rfl,by rfl⟩ (xs := [.int .i64 ((i + j + y : Nat) : Int),.pointer (some ⟨p13,0,none⟩),.pointer (some ⟨p8,0,none⟩),.pointer (some ⟨p9,0,none⟩),.pointer (some ⟨p5,0,none⟩)]) (by rfl) (by first | rfl | (simp only [zAY,zAU,zAT,sp_n,Nat.reduceLT,ne_eq,Nat.reduceEqDiff,zNf,hn]; done) | (simp only [zAY,zAU,zAT,sp_n,Nat.reduceLT,ne_eq,Nat.reduceEqDiff,zNf,hn]; rfl)) (by simp only [zAY,zAU,sp_n,Nat.reduceLT,List.map_cons,List.map_nil,List.nil_append,List.cons_append,hn]) (Con.mono (sum_next hV (by omega) hmi hlim hvq St (fun C1 h => hat C1 ((hAG St).trans (h.le (hAG St).next)) (i + j + y) (by omega))) ?_)
          rintro w G1 ⟨rfl,S1,hk1,hk2⟩
          obtain ⟨G2,e2,hz2,hn2,z2,-⟩ := box1 S1.wf (.int .i64 (scn (m : Int) a x (i + j + y))) 3
          obtain ⟨G3,q3,n3,S3,kp3⟩ := sum_push (S1.nx hz2) hV.lS z2 (by omega)
          refine Wo.run hc 3 rfl rfl rfl ?_
          simp (maxSteps := 2000000) only [List.drop_zero,List.drop_succ_cons,List.take_succ_cons,List.take_zero,zAY,zAU,zAT,sp_n,Nat.reduceLT,ne_eq,Nat.reduceEqDiff,not_false_eq_true,gd,zAX,rops,fx,Option.some.injEq,exists_eq_left',Nat.reduceAdd,hn,bs22_1,zBY,e2,ae_apd,zBD,q3]
          refine Wo.done hc rfl (hK _ _ ?_)
          clear hK
          (repeat (first | refine Rn.seq hc ?_ | refine Rn.skip hc ?_ | refine Rn.block hc ?_ | refine Rn.inBlock hc ?_ | refine Rn.scope hc ?_ | refine Rn.inScope hc ?_))
          refine Rn.reg hc rfl ?_
          simp only [zAY,zAS,zAU,zAT,sp_n,Nat.reduceLT,ne_eq,Nat.reduceEqDiff,zNf,gd,zAX,rops,fx,zAC,zOi,zEl,hn,s89,zBW (show y < 9223372036854775807 by omega)]
          (repeat (first | refine Rn.seq hc ?_ | refine Rn.skip hc ?_ | refine Rn.block hc ?_ | refine Rn.inBlock hc ?_ | refine Rn.scope hc ?_ | refine Rn.inScope hc ?_))
          exact ih _ _ _ (by omega) ⟨y + 1,_,by omega,rfl,S3,by simp only [sp_n,hn],by simp only [zAT,ne_eq,Nat.reduceEqDiff,zNf,s1],by simp only [zAT,ne_eq,Nat.reduceEqDiff,zNf,s5],by simp only [zAT,ne_eq,Nat.reduceEqDiff,zNf,s10],by simp only [zAT,ne_eq,Nat.reduceEqDiff,zNf,s12],by simp only [zAT,ne_eq,Nat.reduceEqDiff,zNf,s14],by simp only [zAU,zAT,sp_n,Nat.reduceLT,ne_eq,Nat.reduceEqDiff,zNf,hn,Nat.add_assoc],by simp only [zAT,ne_eq,Nat.reduceEqDiff,zNf,s88],by simp only [zAU,sp_n,Nat.reduceLT,hn]⟩
        · have hd : decide ((y : Int) < (Q : Int)) = false := decide_eq_false (by omega)
          have hyq : y = Q := by omega
          subst hyq
          clear ih
          refine Rn.reg hc rfl ?_
          simp only [zAY,gd,zAX,rops,fx,zAK,zOi,zEl,s88,s89,hd]
          (repeat (first | refine Rn.seq hc ?_ | refine Rn.skip hc ?_ | refine Rn.block hc ?_ | refine Rn.inBlock hc ?_ | refine Rn.scope hc ?_ | refine Rn.inScope hc ?_))
          refine Rn.zAL hc rfl ?_
          simp only [zAY,zAU,Nat.reduceLT,Value.bool.injEq,zEl,hn]
          (repeat (first | refine Rn.seq hc ?_ | refine Rn.skip hc ?_ | refine Rn.block hc ?_ | refine Rn.inBlock hc ?_ | refine Rn.scope hc ?_ | refine Rn.inScope hc ?_))
          refine Rn.exit hc rfl ?_
          (repeat (first | refine Rn.seq hc ?_ | refine Rn.skip hc ?_ | refine Rn.block hc ?_ | refine Rn.inBlock hc ?_ | refine Rn.scope hc ?_ | refine Rn.inScope hc ?_))
          rw [Nat.add_assoc,hsum] at St s15
          have hAGG := hAG St
          have z5 : cl G p5 0 = some (.int .i64 (m : Int)) := (zAB (St.keep _ hV.l5.1 hV.l5.2)).trans h5
          have nCG := St.next
          have hTj : 0 < T * j := Nat.mul_pos hT0 f1
          have hTj2 : T * j ≤ 120 * 14400 := Nat.mul_le_mul h120 hB2
          obtain ⟨Y,hY⟩ : ∃ Y,Y = scn (m : Int) a x := ⟨_,rfl⟩
          have hgr := St.gr
          rw [← hY] at hPerY hgr ⊢
          obtain ⟨bw,ow,rfl,hw1,hw2,-⟩ := hgr.ints 0 (by rw [zAI]; omega)
          have hcell : ∀ q,q < i + T * j → cl G bw (ow + q) = some (.int .i64 (Y q)) := fun q hq => by
            obtain ⟨bb,oo,ee,-,-,h6⟩ := hgr.ints q (by rw [zAI]; exact hq)
            cases ee
            rw [h6,redS_get hq]
          obtain ⟨F,hF5,hF1,hF2,hF⟩ : ∃ F : AHeap → Prop,(∀ M,F M → cl M p5 0 = some (.int .i64 (m : Int))) ∧ (∀ M,F M → asl Try.prog 22 (.slice (some ⟨bw,ow,none⟩) (i + T * j) (i + T * j)) none (some (.int .i64 (i : Int))) none M = some (.slice (some ⟨bw,ow,none⟩) i (i + T * j),M)) ∧ (∀ M,F M → asl Try.prog 22 (.slice (some ⟨bw,ow,none⟩) (i + T * j) (i + T * j)) (some (.int .i64 (i : Int))) none none M = some (.slice (some ⟨bw,ow + i,none⟩) (T * j) (T * j),M)) ∧ (∀ M,Canon.look M.objs p5 = Canon.look G.objs p5 → (∀ b,C.next ≤ b → b < G.next → Canon.look M.objs b = Canon.look G.objs b) → F M) := by
            refine ⟨fun M => Canon.look M.objs p5 = Canon.look G.objs p5 ∧ ∀ b,C.next ≤ b → b < G.next → Canon.look M.objs b = Canon.look G.objs b,fun M h => (zAB h.1).trans z5,fun M h => ?_,fun M h => ?_,fun M h1 h2 => ⟨h1,h2⟩⟩
            · have he : ∀ b,C.next ≤ b → Canon.look G.objs b = none ∨ Canon.look M.objs b = Canon.look G.objs b := fun b hb => by
                by_cases hlt : b < G.next
                · exact .inr (h.2 b hb hlt)
                · exact .inl (St.wf.none (by omega))
              have := asl_pos (c := i + T * j) (n := i) (hgr.ints.ext he (Nat.le_refl _)) (hgr.sl.ext he) (by rw [zAI]; exact Nat.le_refl _) (by rw [zAI]; omega) (by rw [zAI]; omega)
              rw [zAI] at this
              exact this
            · have he : ∀ b,C.next ≤ b → Canon.look G.objs b = none ∨ Canon.look M.objs b = Canon.look G.objs b := fun b hb => by
                by_cases hlt : b < G.next
                · exact .inr (h.2 b hb hlt)
                · exact .inl (St.wf.none (by omega))
              rw [asl_lo1 (hgr.sl.ext he) (show i < i + T * j by omega),Nat.add_sub_cancel_left]
          have hbk : Nx G.next G (bump G 12) := Nx.bump (Nx.refl St.wf _) 12
          have FB := hF (bump G 12) rfl fun _ _ _ => rfl
          have hAk : Nx A.next A (bump G 12) := hAGG.trans (hbk.le hAGG.next)
          have hlr := least_run hbk.wf (m := (m : Int)) (sa := some ⟨bw,ow,none⟩) (ra := some ⟨bw,ow + i,none⟩) (sc := i + T * j) (rc := T * j) (st := redS Y i) (ro := redR Y i (T * j))
            (fun q hq => ⟨bw,ow,rfl,Nat.zero_le _,by rw [zAH]; omega,by rw [zAI] at hq; rw [zBT,hcell q (by omega),redS_get hq]⟩)
            (fun q hq => ⟨bw,ow + i,rfl,Nat.zero_le _,by rw [zAH]; omega,by rw [zAF] at hq; rw [zBT,Nat.add_assoc,hcell _ (by omega),redR_get hq]⟩)
            (by rw [zAI]; omega) (by rw [zAF]; omega) (by rw [zAF]; exact hTj) ((hgr.nx (n := 0) St.wf hbk).sl.mono (Nat.zero_le _)) (by rw [zAI]; omega)
          rw [atL_redF hPerY] at hlr
          simp only [zAI,zAF] at hlr
          refine Rn.drawnF hc hx (tldS (m : Int) Y) F (n := 2) (k := 12) (by kernel_rfl) (by kernel_rfl) (by rfl) ?_
          refine Dr.read (by first | rfl | kernel_rfl) (by rfl) (by assumption) (fun M hM => by simp only [zAY,zAT,ne_eq,Nat.reduceEqDiff,zNf,fx,ld,zAR,tk3,s5,hF5 M hM] <;> rfl) (by rfl) (by first | exact VQ.int _ _ | exact VQ.bool _ | exact VQ.ptr _ _ | exact VQ.slice _ _ _ | exact VQ.func (by simp [zAW,zAV,zAZ]) (by simp [zAW,zAV,zAZ]) | exact VQ.agg (by simp [zAW,zAV,zAZ]) | exact VQ.tuple (by simp [zAW,zAV,zAZ])) ?_
          refine Dr.read (by first | rfl | kernel_rfl) (by rfl) (by assumption) (fun M hM => by simp only [zAY,zAT,ne_eq,Nat.reduceEqDiff,zNf,fx,s15] <;> rfl) (by rfl) (by first | exact VQ.int _ _ | exact VQ.bool _ | exact VQ.ptr _ _ | exact VQ.slice _ _ _ | exact VQ.func (by simp [zAW,zAV,zAZ]) (by simp [zAW,zAV,zAZ]) | exact VQ.agg (by simp [zAW,zAV,zAZ]) | exact VQ.tuple (by simp [zAW,zAV,zAZ])) ?_
          refine Dr.read (by first | rfl | kernel_rfl) (by rfl) (by assumption) (fun M hM => by simp only [zAY,zAT,ne_eq,Nat.reduceEqDiff,zNf,fx,s1] <;> rfl) (by rfl) (by first | exact VQ.int _ _ | exact VQ.bool _ | exact VQ.ptr _ _ | exact VQ.slice _ _ _ | exact VQ.func (by simp [zAW,zAV,zAZ]) (by simp [zAW,zAV,zAZ]) | exact VQ.agg (by simp [zAW,zAV,zAZ]) | exact VQ.tuple (by simp [zAW,zAV,zAZ])) ?_
          refine Dr.read (by first | rfl | kernel_rfl) (by rfl) (by assumption) (fun M hM => by simp only [zAY,zAU,zAT,sp_n,Nat.reduceLT,ne_eq,Nat.reduceEqDiff,zNf,fx,hn,ae_asl_hi,hF1 M hM] <;> rfl) (by rfl) (by first | exact VQ.int _ _ | exact VQ.bool _ | exact VQ.ptr _ _ | exact VQ.slice _ _ _ | exact VQ.func (by simp [zAW,zAV,zAZ]) (by simp [zAW,zAV,zAZ]) | exact VQ.agg (by simp [zAW,zAV,zAZ]) | exact VQ.tuple (by simp [zAW,zAV,zAZ])) ?_
          refine Dr.read (by first | rfl | kernel_rfl) (by rfl) (by assumption) (fun M hM => by simp only [zAY,zAT,ne_eq,Nat.reduceEqDiff,zNf,fx,s15] <;> rfl) (by rfl) (by first | exact VQ.int _ _ | exact VQ.bool _ | exact VQ.ptr _ _ | exact VQ.slice _ _ _ | exact VQ.func (by simp [zAW,zAV,zAZ]) (by simp [zAW,zAV,zAZ]) | exact VQ.agg (by simp [zAW,zAV,zAZ]) | exact VQ.tuple (by simp [zAW,zAV,zAZ])) ?_
          refine Dr.read (by first | rfl | kernel_rfl) (by rfl) (by assumption) (fun M hM => by simp only [zAY,zAT,ne_eq,Nat.reduceEqDiff,zNf,fx,s1] <;> rfl) (by rfl) (by first | exact VQ.int _ _ | exact VQ.bool _ | exact VQ.ptr _ _ | exact VQ.slice _ _ _ | exact VQ.func (by simp [zAW,zAV,zAZ]) (by simp [zAW,zAV,zAZ]) | exact VQ.agg (by simp [zAW,zAV,zAZ]) | exact VQ.tuple (by simp [zAW,zAV,zAZ])) ?_
          refine Dr.read (by first | rfl | kernel_rfl) (by rfl) (by assumption) (fun M hM => by simp only [zAY,zAU,zAT,sp_n,Nat.reduceLT,ne_eq,Nat.reduceEqDiff,zNf,fx,hn,ae_asl_lo,hF2 M hM] <;> rfl) (by rfl) (by first | exact VQ.int _ _ | exact VQ.bool _ | exact VQ.ptr _ _ | exact VQ.slice _ _ _ | exact VQ.func (by simp [zAW,zAV,zAZ]) (by simp [zAW,zAV,zAZ]) | exact VQ.agg (by simp [zAW,zAV,zAZ]) | exact VQ.tuple (by simp [zAW,zAV,zAZ])) ?_
          refine Dr.call (by kernel_rfl) (by rfl) (by assumption) (by rfl) (zBU (by rfl) ⟨by rfl,by rfl⟩ (by rfl) (xs := [.int .i64 (m : Int),.slice (some ⟨bw,ow,none⟩) i (i + T * j),.slice (some ⟨bw,ow + i,none⟩) (T * j) (T * j)]) (by simp only [zAY,zAU,zAT,sp_n,Nat.reduceLT,ne_eq,Nat.reduceEqDiff,zNf,List.map_cons,List.map_nil,List.nil_append,List.append_nil,hn]) (Con.mono hlr fun v A1 h => (by obtain ⟨a',p',h1,_,_,h2⟩ := h; exact (tld_q h1 h2 : tldS (m : Int) Y 69 _ (bump G 12) v A1)))) ?_
          intro w C1 hT1
          have hT1 : Tld (bump G 12) 0 (m : Int) Y w C1 := hT1
          have hC1 : Nx G.next G C1 := hbk.trans (hT1.1.le hbk.next)
          have F1 : F C1 := hF _ (hC1.keep _ (by have := hV.l5.1; omega)) fun b _ h => hC1.keep b h
          obtain ⟨mm,n1,n2,ee,p1,c1,p2,c2,rfl,D,q1,g0,g1,g2,hoff,hT⟩ := Tld.fin (b := pR) hAk hpRA (by rw [zAH]; omega) ((St.keep _ hpRC hpRS).trans lR) hT1
          refine Dr.read (by first | rfl | kernel_rfl) (by rfl) (by assumption) (fun M hM => by simp only [zAY,zAU,sp_n,Nat.reduceLT,fx,ext,List.getElem?_toArray,List.getElem?_cons_zero,hn,ext] <;> rfl) (by rfl) (by first | exact VQ.int _ _ | exact VQ.bool _ | exact VQ.ptr _ _ | exact VQ.slice _ _ _ | exact VQ.func (by simp [zAW,zAV,zAZ]) (by simp [zAW,zAV,zAZ]) | exact VQ.agg (by simp [zAW,zAZ]) | exact VQ.tuple (by simp [zAW,zAV,zAZ])) ?_
          refine Dr.read (by first | rfl | kernel_rfl) (by rfl) (by assumption) (fun M hM => by simp only [zAY,zAU,zAT,sp_n,Nat.reduceLT,ne_eq,Nat.reduceEqDiff,zNf,fx,ext,List.getElem?_toArray,List.getElem?_cons_zero,List.getElem?_cons_succ,hn,ext] <;> rfl) (by rfl) (by first | exact VQ.int _ _ | exact VQ.bool _ | exact VQ.ptr _ _ | exact VQ.slice _ _ _ | exact VQ.func (by simp [zAW,zAV,zAZ]) (by simp [zAW,zAV,zAZ]) | exact VQ.agg (by simp [zAW,zAV,zAZ]) | exact VQ.tuple (by simp [zAW,zAV,zAZ])) ?_
          have FD : F D := hF D ((hoff _ (by omega)).trans (hC1.keep _ (by have := hV.l5.1; omega))) fun b hb h => (hoff _ (by omega)).trans (hC1.keep b h)
          refine Dr.eff (by rfl) (by rfl) (pd1 := []) (pd2 := []) (by kernel_rfl) (by kernel_rfl) (ms0 := []) (A0 := C1) rfl (fun _ h => by cases h) F1 (by rfl) (v := undef) (A1 := D) (zBP rfl (fx_ok (by rfl) (by simp only [zAY,zAU,zAT,sp_n,Nat.reduceLT,ne_eq,Nat.reduceEqDiff,zNf,fx,str,zAR,Nat.zero_add,Nat.reduceAdd,tk24,hn,s10,q1,List.size_toArray,List.length_cons,List.length_nil,Nat.beq_refl]))) ?_
          refine Dr.read (by first | rfl | kernel_rfl) (by rfl) (by assumption) (fun M hM => by simp only [zAY,zAU,sp_n,zAO,Nat.reduceLT,fx,hn] <;> rfl) (by rfl) (by first | exact VQ.int _ _ | exact VQ.bool _ | exact VQ.ptr _ _ | exact VQ.slice _ _ _ | exact VQ.func (by simp [zAW,zAV,zAZ]) (by simp [zAW,zAV,zAZ]) | exact VQ.agg (by simp [zAW,zAV,zAZ]) | exact VQ.tuple (by simp [zAW,zAV,zAZ])) ?_
          refine Dr.nil (by rfl) (fun M hM => by cases hM) FD ⟨D,by rfl,?_⟩
          (repeat (first | refine Rn.seq hc ?_ | refine Rn.skip hc ?_ | refine Rn.block hc ?_ | refine Rn.inBlock hc ?_ | refine Rn.scope hc ?_ | refine Rn.inScope hc ?_))
          refine Rn.ret (zBR rfl (v := .agg #[.int .i64 mm,.slice p1 n1 c1,.slice p2 n2 c2]) ?_ ?_)
          · simp only [zAT,zAO,ne_eq,Nat.reduceEqDiff,zNf,ld,zAR,cls,Nat.zero_add,Nat.reduceAdd,tk24,s10,g0,g1,g2]
          · simp only [zAU,sp_n,zAO,Nat.reduceLT,hn]
            exact hT
end Go.Proofs.Ytdaljohmfnfgiaa
namespace Go.Proofs.Ytdaljohmfnfgiaa
open Go Go.RowKit Go.Proofs.Ytdaljohmfnfgiaa.Canon
set_option maxRecDepth 20000
def erS (x : Las) (sp : Int) : Int := if x.err = 0 then (if sp < 1 ∨ 120 < sp then 3 else 0) else x.err
theorem bad2s {sp : Int} (h : sp < 1 ∨ 120 < sp) : (decide (sp < 1) = true) ∨ (decide (sp < 1) = false ∧ decide (120 < sp) = true) := by
  simp only [decide_eq_true_eq,decide_eq_false_iff_not]
  omega
theorem scan_run {A : AHeap} (hw : WF A) {x : Las} (hox : x.ok A) {sp : Int} :
    Con Try.prog 47 [x.v,.int .i64 sp] A (Tld A (erS x sp) x.m (scn x.m x.s sp.toNat)) := by
  refine zAJ hc Try.func47 rfl (Nat.le_of_ble_eq_true rfl) ?_
  obtain ⟨A1,e1,hx1,hn1,b0,b1,b2⟩ := box3 hw (.int .i64 x.m) (.slice x.sa x.st.length x.sc) (.slice x.ra x.ro.length x.rc) 24
  have hxr : Nx A1.next A1 (A1.push (.cells #[.int .i64 0,.slice none 0 0,.slice none 0 0] 24)) := (Nx.refl hx1.wf _).push (Nat.le_refl _) _
  have lr := zAM A1 (.cells #[.int .i64 0,.slice none 0 0,.slice none 0 0] 24)
  have hnr : (A1.push (.cells #[.int .i64 0,.slice none 0 0,.slice none 0 0] 24)).next = A1.next + 1 := rfl
  generalize er : A1.push (.cells #[.int .i64 0,.slice none 0 0,.slice none 0 0] 24) = Ar at hxr lr hnr
  have b0 := (hxr.cl (show A.next < A1.next by omega) 0).trans b0
  have b1 := (hxr.cl (show A.next < A1.next by omega) 1).trans b1
  have b2 := (hxr.cl (show A.next < A1.next by omega) 2).trans b2
  have hx0r : Nx A.next A Ar := hx1.trans (hxr.le hx1.next)
  obtain ⟨A3,e3,hx3,hn3,c0,c1,c2⟩ := box3 hxr.wf (.int .i64 x.m) (.slice x.sa x.st.length x.sc) (.slice x.ra x.ro.length x.rc) 24
  have hx03 : Nx A.next A A3 := hx0r.trans (hx3.le hx0r.next)
  have hrow : LRow A3 (some ⟨Ar.next,0,none⟩) [x] := fun i hi => by
    have : i = 0 := by simp at hi; omega
    subst this
    exact ⟨hox.nx hx03,_,_,rfl,by omega,c0,c1,c2⟩
  rw [s_in2]
  unfold Las.v
  (repeat (first | refine Rn.seq hc ?_ | refine Rn.skip hc ?_ | refine Rn.block hc ?_ | refine Rn.inBlock hc ?_ | refine Rn.scope hc ?_ | refine Rn.inScope hc ?_))
  refine Rn.reg hc rfl ?_
  simp only [zAY,zAS,zAU,zAT,Nat.reduceLT,ne_eq,Nat.reduceEqDiff,zNf,gd,zAX,rops,fx,zOi,zEl,Value.cells,show Try.f47.ntmps = 36 from rfl,e1,ze24,er]
  (repeat (first | refine Rn.seq hc ?_ | refine Rn.skip hc ?_ | refine Rn.block hc ?_ | refine Rn.inBlock hc ?_ | refine Rn.scope hc ?_ | refine Rn.inScope hc ?_))
  refine Rn.region hc fun K hK => ?_
  refine Wo.run hc 2 rfl rfl rfl ?_
  simp (maxSteps := 2000000) only [List.drop_zero,List.take_succ_cons,List.take_zero,zAY,zAU,zAT,sp_n,Nat.reduceLT,ne_eq,Nat.reduceEqDiff,not_false_eq_true,gd,zAX,rops,fx,ld,zAR,cls,Nat.zero_add,Option.some.injEq,exists_eq_left',Value.cells,Nat.reduceAdd,tk24,b0,b1,b2,bs46_1,List.size_toArray,List.length_cons,List.length_nil,e3]
  refine Wo.call hc (by rfl) (by rfl) ⟨by rfl,by rfl⟩ (xs := [.slice (some ⟨Ar.next,0,none⟩) 1 1]) (by rfl) (by rfl) (by rfl) (Con.mono (check_all hx3.wf (l := [x]) hrow (by simp)) ?_)
  rintro w A4 ⟨rfl,hx4⟩
  rw [errs_one]
  refine Wo.run hc 1 rfl rfl rfl ?_
  simp (maxSteps := 2000000) only [List.drop_zero,List.drop_succ_cons,List.take_succ_cons,List.take_zero,zAY,zAU,sp_n,Nat.reduceLT,gd,zAX,rops,fx,Option.some.injEq,exists_eq_left',Nat.reduceAdd]
  refine Wo.done hc rfl (hK _ _ ?_)
  clear hK
  (repeat (first | refine Rn.seq hc ?_ | refine Rn.skip hc ?_ | refine Rn.block hc ?_ | refine Rn.inBlock hc ?_ | refine Rn.scope hc ?_ | refine Rn.inScope hc ?_))
  have hxr4 : Nx Ar.next Ar A4 := hx3.trans (hx4.le hx3.next)
  have hx04 : Nx A.next A A4 := hx0r.trans (hxr4.le hx0r.next)
  have n4 := hx4.next
  have b0 := (hxr4.cl (show A.next < Ar.next by omega) 0).trans b0
  have b1 := (hxr4.cl (show A.next < Ar.next by omega) 1).trans b1
  have b2 := (hxr4.cl (show A.next < Ar.next by omega) 2).trans b2
  have l4 : Canon.look A4.objs A1.next = _ := (hxr4.keep _ (by omega)).trans lr
  unfold erS
  by_cases he : x.err = 0
  · have hd : (!decide (x.err = 0)) = false := by rw [decide_eq_true he]; rfl
    obtain ⟨m1,m2,m3⟩ := err_len he
    obtain ⟨mx,lx⟩ := err_lim he
    rw [if_pos he]
    refine Rn.reg hc rfl ?_
    simp only [zAY,zAS,zAU,sp_n,Nat.reduceLT,gd,zAX,rops,fx,zAD,zOi,zEl,hd]
    (repeat (first | refine Rn.seq hc ?_ | refine Rn.skip hc ?_ | refine Rn.block hc ?_ | refine Rn.inBlock hc ?_ | refine Rn.scope hc ?_ | refine Rn.inScope hc ?_))
    refine Rn.zAL hc rfl ?_
    simp only [zAY,zAU,sp_n,Nat.reduceLT,Value.bool.injEq,zEl]
    (repeat (first | refine Rn.seq hc ?_ | refine Rn.skip hc ?_ | refine Rn.block hc ?_ | refine Rn.inBlock hc ?_ | refine Rn.scope hc ?_ | refine Rn.inScope hc ?_))
    by_cases hbad : sp < 1 ∨ 120 < sp
    · obtain ⟨D,q1,g0,g1,g2,hxD⟩ := err_fin hx04 (by omega) (by omega) l4
      rw [if_pos hbad]
      rcases bad2s hbad with h1 | ⟨h1,h2⟩
      · refine Rn.reg hc rfl ?_
        simp only [zAY,zAS,zAU,zAT,sp_n,Nat.reduceLT,ne_eq,Nat.reduceEqDiff,zNf,gd,nth,zAX,zAQ,beqB,rops,fx,pck,zAK,zOi,zEl,h1]
        (repeat (first | refine Rn.seq hc ?_ | refine Rn.skip hc ?_ | refine Rn.block hc ?_ | refine Rn.inBlock hc ?_ | refine Rn.scope hc ?_ | refine Rn.inScope hc ?_))
        refine Rn.zAL hc rfl ?_
        simp only [zAY,zAU,sp_n,Nat.reduceLT,Value.bool.injEq,zEl]
        (repeat (first | refine Rn.seq hc ?_ | refine Rn.skip hc ?_ | refine Rn.block hc ?_ | refine Rn.inBlock hc ?_ | refine Rn.scope hc ?_ | refine Rn.inScope hc ?_))
        refine Rn.reg hc rfl ?_
        simp only [zAY,zAS,zAU,zAT,sp_n,zAO,Nat.reduceLT,ne_eq,Nat.reduceEqDiff,zNf,gd,zAX,rops,fx,str,zAR,Nat.zero_add,zOi,zEl,Nat.reduceAdd,tk24,bd24_z,q1,List.size_toArray,List.length_cons,List.length_nil,Nat.beq_refl]
        (repeat (first | refine Rn.seq hc ?_ | refine Rn.skip hc ?_ | refine Rn.block hc ?_ | refine Rn.inBlock hc ?_ | refine Rn.scope hc ?_ | refine Rn.inScope hc ?_))
        refine Rn.ret (zBR rfl (v := .agg #[.int .i64 0,.slice none 0 0,.slice none 0 0]) ?_ ?_)
        · simp only [zAU,zAT,sp_n,Nat.reduceLT,ne_eq,Nat.reduceEqDiff,zNf,ld,zAR,cls,Nat.zero_add,Nat.reduceAdd,tk24,g0,g1,g2]
        · simp only [zAU,sp_n,Nat.reduceLT]
          exact tld_err (by omega) hxD
      · refine Rn.reg hc rfl ?_
        simp only [zAY,zAS,zAU,zAT,sp_n,Nat.reduceLT,ne_eq,Nat.reduceEqDiff,zNf,gd,nth,zAX,zAQ,beqB,rops,fx,pck,zAK,zBX,zOi,zEl,h1,h2]
        (repeat (first | refine Rn.seq hc ?_ | refine Rn.skip hc ?_ | refine Rn.block hc ?_ | refine Rn.inBlock hc ?_ | refine Rn.scope hc ?_ | refine Rn.inScope hc ?_))
        refine Rn.zAL hc rfl ?_
        simp only [zAY,zAU,sp_n,Nat.reduceLT,Value.bool.injEq,zEl]
        (repeat (first | refine Rn.seq hc ?_ | refine Rn.skip hc ?_ | refine Rn.block hc ?_ | refine Rn.inBlock hc ?_ | refine Rn.scope hc ?_ | refine Rn.inScope hc ?_))
        refine Rn.reg hc rfl ?_
        simp only [zAY,zAS,zAU,zAT,sp_n,zAO,Nat.reduceLT,ne_eq,Nat.reduceEqDiff,zNf,gd,zAX,rops,fx,str,zAR,Nat.zero_add,zOi,zEl,Nat.reduceAdd,tk24,bd24_z,q1,List.size_toArray,List.length_cons,List.length_nil,Nat.beq_refl]
        (repeat (first | refine Rn.seq hc ?_ | refine Rn.skip hc ?_ | refine Rn.block hc ?_ | refine Rn.inBlock hc ?_ | refine Rn.scope hc ?_ | refine Rn.inScope hc ?_))
        refine Rn.ret (zBR rfl (v := .agg #[.int .i64 0,.slice none 0 0,.slice none 0 0]) ?_ ?_)
        · simp only [zAU,zAT,sp_n,Nat.reduceLT,ne_eq,Nat.reduceEqDiff,zNf,ld,zAR,cls,Nat.zero_add,Nat.reduceAdd,tk24,g0,g1,g2]
        · simp only [zAU,sp_n,Nat.reduceLT]
          exact tld_err (by omega) hxD
    · have h1 : decide (sp < 1) = false := decide_eq_false (by omega)
      have h2 : decide (120 < sp) = false := decide_eq_false (by omega)
      rw [if_neg hbad]
      obtain ⟨step,rfl⟩ : ∃ k : Nat,sp = (k : Int) := ⟨sp.toNat,by omega⟩
      rw [Int.toNat_natCast]
      refine Rn.reg hc rfl ?_
      simp only [zAY,zAS,zAU,zAT,sp_n,Nat.reduceLT,ne_eq,Nat.reduceEqDiff,zNf,gd,nth,zAX,zAQ,beqB,rops,fx,pck,zAK,zBX,zOi,zEl,h1,h2]
      (repeat (first | refine Rn.seq hc ?_ | refine Rn.skip hc ?_ | refine Rn.block hc ?_ | refine Rn.inBlock hc ?_ | refine Rn.scope hc ?_ | refine Rn.inScope hc ?_))
      refine Rn.zAL hc rfl ?_
      simp only [zAY,zAU,sp_n,Nat.reduceLT,Value.bool.injEq,zEl]
      (repeat (first | refine Rn.seq hc ?_ | refine Rn.skip hc ?_ | refine Rn.block hc ?_ | refine Rn.inBlock hc ?_ | refine Rn.scope hc ?_ | refine Rn.inScope hc ?_))
      obtain ⟨mn,hmn⟩ : ∃ k : Nat,x.m = (k : Int) := ⟨x.m.toNat,by omega⟩
      have hsm := summed_run hx04.wf (m := mn) (stem := x.st.length) (round := x.ro.length) (step := step) (fi := .agg #[.int .i64 x.m,.slice x.sa x.st.length x.sc,.slice x.ra x.ro.length x.rc]) (a := x.s) (by omega) (by omega) (by omega) (by omega) (fun n => by rw [← hmn]; exact lx n) (atL_per m3)
        (fun C h n hn => at_stream h.wf ((hox.nx hx04).nx h).1 ((hox.nx hx04).nx h).2.1 n hox.2.2.1 m3 hox.2.2.2 (by omega)) (vq_lasf _ _ _ _ _ _ _ _)
      rw [← hmn] at hsm
      refine Rn.region hc fun K hK => ?_
      refine Wo.run hc 12 rfl rfl rfl ?_
      simp (maxSteps := 2000000) only [List.drop_zero,List.take_succ_cons,List.take_zero,zAY,zAU,zAT,sp_n,Nat.reduceLT,ne_eq,Nat.reduceEqDiff,not_false_eq_true,gd,zAX,rops,fx,ld,fad,lng,zAR,cls,Nat.zero_add,Nat.add_zero,Option.some.injEq,exists_eq_left',Value.cells,Nat.reduceAdd,ae_mkbound,tk3,tk22,tk24,zBO,zBQ,zBE,un22,b0,b1,b2,bd86,ae_mkbound,List.size_toArray,List.length_cons,List.length_nil]
      refine Wo.call hc (by rfl) (by rfl) ⟨by rfl,by rfl⟩ (xs := [.int .i64 x.m,.int .i64 (x.st.length : Int),.int .i64 (x.ro.length : Int),.int .i64 (step : Int),.func (.func 77) #[.agg #[.int .i64 x.m,.slice x.sa x.st.length x.sc,.slice x.ra x.ro.length x.rc]] #[]]) (by rfl) (by rfl) (by rfl) (Con.mono (hsm) ?_)
      intro w C1 hT0
      obtain ⟨mm,n1,n2,ee,p1,c1,p2,c2,rfl,D,q1,g0,g1,g2,hoff,hT⟩ := Tld.fin (b := A1.next) hx04 (by omega) (by omega) l4 hT0
      refine Wo.run hc 4 rfl rfl rfl ?_
      simp (maxSteps := 2000000) only [List.drop_zero,List.drop_succ_cons,List.take_succ_cons,List.take_zero,zAY,zAU,zAT,sp_n,zAO,Nat.reduceLT,ne_eq,Nat.reduceEqDiff,not_false_eq_true,gd,zAX,rops,fx,str,ext,zAR,List.getElem?_toArray,List.getElem?_cons_zero,List.getElem?_cons_succ,Nat.zero_add,Option.some.injEq,exists_eq_left',Nat.reduceAdd,tk24,ext,q1,List.size_toArray,List.length_cons,List.length_nil,Nat.beq_refl]
      refine Wo.done hc rfl (hK _ _ ?_)
      clear hK
      (repeat (first | refine Rn.seq hc ?_ | refine Rn.skip hc ?_ | refine Rn.block hc ?_ | refine Rn.inBlock hc ?_ | refine Rn.scope hc ?_ | refine Rn.inScope hc ?_))
      refine Rn.ret (zBR rfl (v := .agg #[.int .i64 mm,.slice p1 n1 c1,.slice p2 n2 c2]) ?_ ?_)
      · simp only [zAU,zAT,sp_n,Nat.reduceLT,ne_eq,Nat.reduceEqDiff,zNf,ld,zAR,cls,Nat.zero_add,Nat.reduceAdd,tk24,g0,g1,g2]
      · simp only [zAU,sp_n,Nat.reduceLT]
        exact hT
  · have hd : (!decide (x.err = 0)) = true := by rw [decide_eq_false he]; rfl
    obtain ⟨D,q1,g0,g1,g2,hxD⟩ := err_fin hx04 (by omega) (by omega) l4
    rw [if_neg he]
    refine Rn.reg hc rfl ?_
    simp only [zAY,zAS,zAU,sp_n,Nat.reduceLT,gd,zAX,rops,fx,zAD,zOi,zEl,hd]
    (repeat (first | refine Rn.seq hc ?_ | refine Rn.skip hc ?_ | refine Rn.block hc ?_ | refine Rn.inBlock hc ?_ | refine Rn.scope hc ?_ | refine Rn.inScope hc ?_))
    refine Rn.zAL hc rfl ?_
    simp only [zAY,zAU,sp_n,Nat.reduceLT,Value.bool.injEq,zEl]
    (repeat (first | refine Rn.seq hc ?_ | refine Rn.skip hc ?_ | refine Rn.block hc ?_ | refine Rn.inBlock hc ?_ | refine Rn.scope hc ?_ | refine Rn.inScope hc ?_))
    refine Rn.reg hc rfl ?_
    simp only [zAY,zAU,zAT,sp_n,zAO,Nat.reduceLT,ne_eq,Nat.reduceEqDiff,zNf,gd,zAX,rops,fx,str,zAR,Nat.zero_add,zOi,zEl,Nat.reduceAdd,tk24,bd24_z,q1,List.size_toArray,List.length_cons,List.length_nil,Nat.beq_refl]
    (repeat (first | refine Rn.seq hc ?_ | refine Rn.skip hc ?_ | refine Rn.block hc ?_ | refine Rn.inBlock hc ?_ | refine Rn.scope hc ?_ | refine Rn.inScope hc ?_))
    refine Rn.ret (zBR rfl (v := .agg #[.int .i64 0,.slice none 0 0,.slice none 0 0]) ?_ ?_)
    · simp only [zAU,zAT,sp_n,Nat.reduceLT,ne_eq,Nat.reduceEqDiff,zNf,ld,zAR,cls,Nat.zero_add,Nat.reduceAdd,tk24,g0,g1,g2]
    · simp only [zAU,sp_n,Nat.reduceLT]
      exact tld_err he hxD
end Go.Proofs.Ytdaljohmfnfgiaa
namespace Go.Proofs.Ytdaljohmfnfgiaa
open Go Go.RowKit Go.Proofs.Ytdaljohmfnfgiaa.Canon
set_option maxRecDepth 20000
theorem lcm_ref2 {A : AHeap} (hw : WF A) {a b : Nat} (ha : 0 < a ∧ a ≤ 100000) (hb : 0 < b ∧ b ≤ 100000) : Con Try.prog 73 [.int .i64 (a : Int),.int .i64 (b : Int)] A (fun v A1 => v = .int .i64 (lcmN a b : Nat) ∧ Nx A.next A A1) := by
  refine zAJ hc Try.func73 rfl (Nat.le_of_ble_eq_true rfl) ?_
  rw [s_in2]
  (repeat (first | refine Rn.seq hc ?_ | refine Rn.skip hc ?_ | refine Rn.block hc ?_ | refine Rn.inBlock hc ?_ | refine Rn.scope hc ?_ | refine Rn.inScope hc ?_))
  refine Rn.reg hc rfl ?_
  simp only [zAS,gd,zAX,rops,fx,zOi,zEl,show Try.f73.ntmps = 12 from rfl]
  (repeat (first | refine Rn.seq hc ?_ | refine Rn.skip hc ?_ | refine Rn.block hc ?_ | refine Rn.inBlock hc ?_ | refine Rn.scope hc ?_ | refine Rn.inScope hc ?_))
  refine Rn.region hc fun K hK => ?_
  refine Wo.run hc 3 rfl rfl rfl ?_
  simp (maxSteps := 2000000) only [List.drop_zero,List.take_succ_cons,List.take_zero,zAY,zAU,zAT,sp_n,Nat.reduceLT,ne_eq,Nat.reduceEqDiff,not_false_eq_true,gd,zAX,rops,fx,Nat.zero_add,Option.some.injEq,exists_eq_left']
  refine Wo.call hc (by rfl) (by rfl) ⟨by rfl,by rfl⟩ (xs := [.int .i64 (a : Int),.int .i64 (b : Int)]) (by rfl) (by rfl) (by rfl) (Con.mono (gcd_ref hw (by omega) (by omega)) ?_)
  rintro w A1 ⟨rfl,hx1⟩
  have hg : 0 < Nat.gcd a b := Nat.gcd_pos_of_pos_left _ ha.1
  have hq : ∀ M,bin Try.prog .quo 3 (.int .i64 (a : Int)) (.int .i64 (Nat.gcd a b : Nat)) M = some (.int .i64 ((a / Nat.gcd a b : Nat) : Int),M) := fun M => by
    have hle := Nat.div_le_self a (Nat.gcd a b)
    have e : ((a : Int)).tdiv ((Nat.gcd a b : Nat) : Int) = ((a / Nat.gcd a b : Nat) : Int) := by
      rw [Int.tdiv_eq_ediv_of_nonneg (by omega)]
      rfl
    have e2 : IntKind.i64.wrap ((a / Nat.gcd a b : Nat) : Int) = ((a / Nat.gcd a b : Nat) : Int) := by
      clear e
      generalize a / Nat.gcd a b = q at hle
      rw [IntWalk.i64_in _ (by omega)]
    rw [bin_quo _ _ _ _ (by omega),e,e2]
  have hm : IntKind.i64.wrap (((a / Nat.gcd a b : Nat) : Int) * (b : Int)) = ((lcmN a b : Nat) : Int) := by
    have hle : lcmN a b ≤ 100000 * 100000 := Nat.le_trans (zDZ ha.1 hb.1).2.2.2 (Nat.mul_le_mul ha.2 hb.2)
    rw [← Int.natCast_mul]
    show IntKind.i64.wrap ((lcmN a b : Nat) : Int) = _
    rw [IntWalk.i64_in _ (by omega)]
  refine Wo.run hc 4 rfl rfl rfl ?_
  simp (maxSteps := 2000000) only [List.drop_zero,List.drop_succ_cons,List.take_succ_cons,List.take_zero,zAY,zAU,zAT,sp_n,Nat.reduceLT,ne_eq,Nat.reduceEqDiff,not_false_eq_true,gd,zAX,rops,fx,bin_mul,Option.some.injEq,exists_eq_left',Nat.reduceAdd,hq,hm]
  refine Wo.done hc rfl (hK _ _ ?_)
  clear hK
  (repeat (first | refine Rn.seq hc ?_ | refine Rn.skip hc ?_ | refine Rn.block hc ?_ | refine Rn.inBlock hc ?_ | refine Rn.scope hc ?_ | refine Rn.inScope hc ?_))
  refine Rn.ret (zAN rfl ⟨?_,hx1⟩)
  simp only [zAU,sp_n,Nat.reduceLT]
section
variable {m : Nat} {a : Nat → Int} {step B N : Nat}
theorem long_ref2 (hm : 0 < m) (hs : 0 < step) (hlim : ∀ n,0 ≤ a n ∧ a n < (m : Int)) {R : Nat} (hR : Red a N R) (hB0 : 0 < B) (hB : step ∣ B) (hRB : R ∣ B) {P : Nat → Nat} {i : Nat} (hPd : ∀ c,c < i → ∃ j,j < step ∧ P c = ordN m (dC m a step B N j)) (hl : 120 < lcmF P i * R) {p b : Nat} (hr : Red (scn (m : Int) a step) b p) : 120 < p := by
  have hP : ∀ n,N ≤ n → a (n + B) = a n := fun n hn => by
    obtain ⟨c,rfl⟩ := hRB
    rw [Nat.mul_comm]
    exact hR.per.times c n hn
  have hav : ∀ n,a (n + step) = (scn (m : Int) a step (n + step) - scn (m : Int) a step n) % (m : Int) := fun n => by
    rw [scn_eq hs (n + step),show scY (m : Int) a step (n + step) = scn (m : Int) a step n from rfl,Int.sub_emod,Int.emod_emod,← Int.sub_emod]
    rw [show scn (m : Int) a step n + a (n + step) - scn (m : Int) a step n = a (n + step) by omega]
    exact (Int.emod_eq_of_lt (hlim _).1 (hlim _).2).symm
  have hRp : R ∣ p := hR.dvd (N := b + step) (d := p) ⟨hr.per.pos,fun n hn => by
    obtain ⟨q,rfl⟩ : ∃ q,n = q + step := ⟨n - step,by omega⟩
    rw [show q + step + p = q + p + step by omega,hav,hav,show q + p + step = q + step + p by omega,hr.per.per (q + step) (by omega),hr.per.per q (by omega)]⟩
  have hg0 : 0 < Nat.gcd p B := Nat.gcd_pos_of_pos_left _ hr.per.pos
  obtain ⟨k,hk⟩ := Nat.gcd_dvd_left p B
  obtain ⟨c,hcB⟩ := Nat.gcd_dvd_right p B
  have hc0 : 0 < c := Nat.pos_of_ne_zero fun h0 => by rw [h0,Nat.mul_zero] at hcB; omega
  have hkB : k * B = c * p := by
    calc k * B = k * (Nat.gcd p B * c) := by rw [← hcB]
      _ = c * (Nat.gcd p B * k) := by rw [Nat.mul_left_comm,Nat.mul_comm k c,Nat.mul_left_comm]
      _ = c * p := by rw [← hk]
  have h1 : Per (scn (m : Int) a step) b (k * B) := by
    rw [hkB]
    exact hr.per.mul hc0
  have h2 := ord_of_per hm hs hB hP h1
  have h3 : lcmF P i ∣ k := lcmF_least fun j hj => by
    obtain ⟨q,hq,e⟩ := hPd j hj
    rw [e]
    exact h2 q hq
  have h4 : R ∣ Nat.gcd p B := Nat.dvd_gcd hRp hRB
  have h5 : lcmF P i * R ∣ k * Nat.gcd p B := Nat.mul_dvd_mul h3 h4
  rw [Nat.mul_comm k,← hk] at h5
  have := Nat.le_of_dvd hr.per.pos h5
  omega
end
theorem sumA_lim {a : Nat → Int} {m : Int} (h : ∀ n,0 ≤ a n ∧ a n < m) (step n : Nat) : ∀ q : Nat,0 ≤ sumA a step n q ∧ sumA a step n q ≤ (q : Int) * m
  | 0 => by simp [sumA]
  | q + 1 => by
    have h1 := sumA_lim h step n q
    have h2 := h (n + q * step)
    rw [sumA,Int.natCast_add,Int.natCast_one,Int.add_mul,Int.one_mul]
    omega
def rfS (g L : Nat) : Canon.Spec := fun f _ A v A1 => match f with
  | 104 => v = .int .i64 (g : Int) ∧ Nx A.next A A1
  | _ => v = .int .i64 (L : Int) ∧ Nx A.next A A1
def SmlQ (m : Int) (Y : Nat → Int) (A : AHeap) (v : Value) (A1 : AHeap) : Prop := ∃ a p,Red Y a p ∧ Nx A.next A A1 ∧ ∃ xa xc xr,v = .agg #[.int .i64 m,.slice xa a xc,.slice xr p p] ∧ a ≤ xc ∧ Ints A1 xa A.next A1.next (redS Y a) ∧ Ints A1 xr A.next A1.next (redR Y a p) ∧ Sl A1 xa A.next ∧ Sl A1 xr A.next
def smlS (m : Int) (Y : Nat → Int) : Canon.Spec := fun _ _ A v A1 => SmlQ m Y A v A1
def ScnQ (x : Las) (step : Nat) (A : AHeap) (v : Value) (A1 : AHeap) : Prop := Nx A.next A A1 ∧ ((v = .tuple #[.agg #[.int .i64 0,.slice none 0 0,.slice none 0 0],.bool false] ∧ (∃ N d,Per (scn x.m x.s step) N d) ∧ ∀ a p,Red (scn x.m x.s step) a p → 120 < p) ∨
  (∃ a p xa xc xr,Red (scn x.m x.s step) a p ∧ a ≤ x.st.length ∧ p ≤ 14400 * 120 ∧ v = .tuple #[.agg #[.int .i64 x.m,.slice xa a xc,.slice xr p p],.bool true] ∧ a ≤ xc ∧ Ints A1 xa A.next A1.next (redS (scn x.m x.s step) a) ∧ Ints A1 xr A.next A1.next (redR (scn x.m x.s step) a p) ∧ Sl A1 xa A.next ∧ Sl A1 xr A.next))
theorem scanned_ref {A : AHeap} (hw : WF A) {x : Las} (hox : x.ok A) {m : Nat} (hxm : x.m = (m : Int)) (hm : 2 ≤ m ∧ m ≤ 65521) (hlim : ∀ n,0 ≤ x.s n ∧ x.s n < (m : Int)) (h6 : x.st.length ≤ 1000) (h12 : 1 ≤ x.ro.length ∧ x.ro.length ≤ 20000) (hR : Red x.s x.st.length x.ro.length) {step : Nat} (hsp : 1 ≤ step ∧ step ≤ 120) :
    Con Try.prog 92 [x.v,.int .i64 (step : Int)] A (ScnQ x step A) := by
  refine zAJ hc Try.func92 rfl (Nat.le_of_ble_eq_true rfl) ?_
  obtain ⟨A1,e1,hx1,hn1,b0,b1,b2⟩ := box3 hw (.int .i64 x.m) (.slice x.sa x.st.length x.sc) (.slice x.ra x.ro.length x.rc) 24
  have hxr : Nx A1.next A1 (A1.push (.cells #[.int .i64 0,.slice none 0 0,.slice none 0 0] 24)) := (Nx.refl hx1.wf _).push (Nat.le_refl _) _
  have lr := zAM A1 (.cells #[.int .i64 0,.slice none 0 0,.slice none 0 0] 24)
  have hnr : (A1.push (.cells #[.int .i64 0,.slice none 0 0,.slice none 0 0] 24)).next = A1.next + 1 := rfl
  generalize er : A1.push (.cells #[.int .i64 0,.slice none 0 0,.slice none 0 0] 24) = Ar at hxr lr hnr
  have b0 := (hxr.cl (show A.next < A1.next by omega) 0).trans b0
  have b1 := (hxr.cl (show A.next < A1.next by omega) 1).trans b1
  have b2 := (hxr.cl (show A.next < A1.next by omega) 2).trans b2
  have hx0r : Nx A.next A Ar := hx1.trans (hxr.le hx1.next)
  obtain ⟨f1,f2,f3,f4⟩ := zDZ (show 0 < step by omega) (show 0 < x.ro.length by omega)
  have hB2 : lcmN step x.ro.length ≤ 120 * 20000 := Nat.le_trans f4 (Nat.mul_le_mul hsp.2 h12.2)
  rw [s_in2]
  unfold Las.v
  (repeat (first | refine Rn.seq hc ?_ | refine Rn.skip hc ?_ | refine Rn.block hc ?_ | refine Rn.inBlock hc ?_ | refine Rn.scope hc ?_ | refine Rn.inScope hc ?_))
  refine Rn.reg hc rfl ?_
  simp only [zAY,zAS,zAU,zAT,Nat.reduceLT,ne_eq,Nat.reduceEqDiff,zNf,gd,zAX,rops,fx,zOi,zEl,Value.cells,show Try.f92.ntmps = 106 from rfl,e1,ze24,er]
  (repeat (first | refine Rn.seq hc ?_ | refine Rn.skip hc ?_ | refine Rn.block hc ?_ | refine Rn.inBlock hc ?_ | refine Rn.scope hc ?_ | refine Rn.inScope hc ?_))
  refine Rn.region hc fun K hK => ?_
  refine Wo.run hc 4 rfl rfl rfl ?_
  simp (maxSteps := 2000000) only [List.drop_zero,List.take_succ_cons,List.take_zero,zAY,zAU,zAT,sp_n,Nat.reduceLT,ne_eq,Nat.reduceEqDiff,not_false_eq_true,gd,zAX,rops,fx,ld,fad,lng,zAR,Nat.zero_add,Option.some.injEq,exists_eq_left',tk22,zBE,un22,b2]
  refine Wo.call hc (by rfl) (by rfl) ⟨by rfl,by rfl⟩ (xs := [.int .i64 (step : Int),.int .i64 (x.ro.length : Int)]) (by rfl) (by rfl) (by rfl) (Con.mono (lcm_ref2 hx0r.wf ⟨by omega,by omega⟩ ⟨by omega,by omega⟩) ?_)
  rintro w C ⟨rfl,hxC⟩
  refine Wo.run hc 1 rfl rfl rfl ?_
  simp (maxSteps := 2000000) only [List.drop_zero,List.drop_succ_cons,List.take_succ_cons,List.take_zero,zAY,zAU,sp_n,Nat.reduceLT,gd,zAX,rops,fx,Option.some.injEq,exists_eq_left',Nat.reduceAdd]
  refine Wo.done hc rfl (hK _ _ ?_)
  clear hK
  (repeat (first | refine Rn.seq hc ?_ | refine Rn.skip hc ?_ | refine Rn.block hc ?_ | refine Rn.inBlock hc ?_ | refine Rn.scope hc ?_ | refine Rn.inScope hc ?_))
  have hAC : Nx A.next A C := hx0r.trans (hxC.le hx0r.next)
  have nC := hxC.next
  have b0 := (hxC.cl (show A.next < Ar.next by omega) 0).trans b0
  have b1 := (hxC.cl (show A.next < Ar.next by omega) 1).trans b1
  have b2 := (hxC.cl (show A.next < Ar.next by omega) 2).trans b2
  have lC : Canon.look C.objs A1.next = _ := (hxC.keep _ (by omega)).trans lr
  have hdvS : step ∣ lcmN step x.ro.length := Nat.dvd_of_mod_eq_zero f2
  have hdvR : x.ro.length ∣ lcmN step x.ro.length := Nat.dvd_of_mod_eq_zero f3
  have hB120 : x.ro.length ≤ 120 → lcmN step x.ro.length ≤ 14400 := fun h => Nat.le_trans f4 (Nat.mul_le_mul hsp.2 h)
  generalize lcmN step x.ro.length = B at f1 f2 f3 f4 hB2 hdvS hdvR hB120 ⊢
  obtain ⟨Q,hQ⟩ := id hdvS
  rw [Nat.mul_comm] at hQ
  have hP' : ∀ n,x.st.length ≤ n → x.s (n + B) = x.s n := fun n hn => by
    obtain ⟨q,rfl⟩ := hdvR
    rw [Nat.mul_comm]
    exact hR.per.times q n hn
  clear f2 f3 f4
  obtain ⟨pR,hpR⟩ : ∃ b,b = A1.next := ⟨_,rfl⟩
  rw [← hpR] at lC ⊢
  have nAC : A.next < C.next := by omega
  have hpRA : A.next < pR := by omega
  have hpRC : pR < C.next := by omega
  obtain ⟨P,hPd⟩ : ∃ P : Nat → Nat,P = fun c => ordN m (dC m x.s step B x.st.length ((x.st.length + c) % step)) := ⟨_,rfl⟩
  have hPv : ∀ c,P c = ordN m (dC m x.s step B x.st.length ((x.st.length + c) % step)) := fun c => by rw [hPd]
  have hPp : ∀ c,c < step → 0 < P c := fun c _ => by rw [hPv]; exact ordN_pos (by omega)
  have hs0 : 0 < step := by omega
  clear hPd e1 er hxr lr hnr hx1 hn1 hx0r hxC
  refine Rn.reg hc rfl ?_
  simp only [zAS,gd,zAX,rops,fx,zOi,zEl]
  (repeat (first | refine Rn.seq hc ?_ | refine Rn.skip hc ?_ | refine Rn.block hc ?_ | refine Rn.inBlock hc ?_ | refine Rn.scope hc ?_ | refine Rn.inScope hc ?_))
  refine Rn.reg hc rfl ?_
  simp only [zAS,gd,zAX,rops,fx,zOi,zEl]
  (repeat (first | refine Rn.seq hc ?_ | refine Rn.skip hc ?_ | refine Rn.block hc ?_ | refine Rn.inBlock hc ?_ | refine Rn.scope hc ?_ | refine Rn.inScope hc ?_))
  refine Rn.loopI hc (I := fun k s H => ∃ c,c ≤ step ∧ k = step - c ∧ Nx C.next C H ∧ lcmF P c ≤ 120 ∧ (c = 0 ∨ lcmF P c * x.ro.length ≤ 120) ∧ s.n = 106 ∧ sget s 1 = .int .i64 (step : Int) ∧ sget s 2 = .pointer (some ⟨A.next,0,none⟩) ∧ sget s 4 = .pointer (some ⟨pR,0,none⟩) ∧ sget s 6 = .int .i64 (B : Int) ∧ sget s 7 = .int .i64 ((lcmF P c : Nat) : Int) ∧ sget s 8 = .int .i64 (c : Int))
    (n := step) ⟨0,by omega,rfl,Nx.refl hAC.wf _,by show 1 ≤ 120; omega,.inl rfl,by simp only [sp_n],by simp only [zAU,zAT,sp_n,Nat.reduceLT,ne_eq,Nat.reduceEqDiff,zNf],by simp only [zAU,zAT,sp_n,Nat.reduceLT,ne_eq,Nat.reduceEqDiff,zNf],by simp only [zAU,zAT,sp_n,Nat.reduceLT,ne_eq,Nat.reduceEqDiff,zNf],by simp only [zAU,zAT,sp_n,Nat.reduceLT,ne_eq,Nat.reduceEqDiff,zNf],by simp only [zAU,zAT,sp_n,Nat.reduceLT,ne_eq,Nat.reduceEqDiff,zNf]; rfl,by simp only [zAU,sp_n,Nat.reduceLT]; rfl⟩ ?_
  rintro k s H ⟨c,hcs,rfl,hH,h120,hcR,hn,s1,s2,s4,s6,s7,s8⟩ ih
  have nH := hH.next
  have hAH : Nx A.next A H := hAC.trans (hH.le hAC.next)
  (repeat (first | refine Rn.seq hc ?_ | refine Rn.skip hc ?_ | refine Rn.block hc ?_ | refine Rn.inBlock hc ?_ | refine Rn.scope hc ?_ | refine Rn.inScope hc ?_))
  by_cases hlc : c < step
  · have hd : decide ((c : Int) < (step : Int)) = true := decide_eq_true (by omega)
    refine Rn.reg hc rfl ?_
    simp only [zAY,zAU,zAT,sp_n,Nat.reduceLT,ne_eq,Nat.reduceEqDiff,zNf,gd,zAX,rops,fx,zAK,zOi,zEl,hn,s1,s8,hd]
    (repeat (first | refine Rn.seq hc ?_ | refine Rn.skip hc ?_ | refine Rn.block hc ?_ | refine Rn.inBlock hc ?_ | refine Rn.scope hc ?_ | refine Rn.inScope hc ?_))
    refine Rn.zAL hc rfl ?_
    simp only [zAY,zAU,sp_n,Nat.reduceLT,Value.bool.injEq,zEl,hn]
    (repeat (first | refine Rn.seq hc ?_ | refine Rn.skip hc ?_ | refine Rn.block hc ?_ | refine Rn.inBlock hc ?_ | refine Rn.scope hc ?_ | refine Rn.inScope hc ?_))
    refine Rn.reg hc rfl ?_
    simp only [zAS,gd,zAX,rops,fx,zOi,zEl]
    (repeat (first | refine Rn.seq hc ?_ | refine Rn.skip hc ?_ | refine Rn.block hc ?_ | refine Rn.inBlock hc ?_ | refine Rn.scope hc ?_ | refine Rn.inScope hc ?_))
    refine Rn.reg hc rfl ?_
    simp only [zAY,zAU,zAT,sp_n,Nat.reduceLT,ne_eq,Nat.reduceEqDiff,zNf,gd,zAX,rops,fx,zOi,zEl,hn,s8]
    (repeat (first | refine Rn.seq hc ?_ | refine Rn.skip hc ?_ | refine Rn.block hc ?_ | refine Rn.inBlock hc ?_ | refine Rn.scope hc ?_ | refine Rn.inScope hc ?_))
    refine Rn.loopI hc (I := fun k s H2 => ∃ q,q ≤ Q ∧ k = Q - q ∧ Nx H.next H H2 ∧ s.n = 106 ∧ sget s 1 = .int .i64 (step : Int) ∧ sget s 2 = .pointer (some ⟨A.next,0,none⟩) ∧ sget s 4 = .pointer (some ⟨pR,0,none⟩) ∧ sget s 6 = .int .i64 (B : Int) ∧ sget s 7 = .int .i64 ((lcmF P c : Nat) : Int) ∧ sget s 8 = .int .i64 (c : Int) ∧ sget s 9 = .int .i64 (sumA x.s step (x.st.length + c) q) ∧ sget s 10 = .int .i64 ((c + q * step : Nat) : Int))
      (n := Q) ⟨0,by omega,rfl,Nx.refl hH.wf _,by simp only [sp_n,hn],by simp only [zAT,ne_eq,Nat.reduceEqDiff,zNf,s1],by simp only [zAT,ne_eq,Nat.reduceEqDiff,zNf,s2],by simp only [zAT,ne_eq,Nat.reduceEqDiff,zNf,s4],by simp only [zAT,ne_eq,Nat.reduceEqDiff,zNf,s6],by simp only [zAT,ne_eq,Nat.reduceEqDiff,zNf,s7],by simp only [zAT,ne_eq,Nat.reduceEqDiff,zNf,s8],by simp only [zAU,zAT,sp_n,Nat.reduceLT,ne_eq,Nat.reduceEqDiff,zNf,hn]; rfl,by simp only [zAU,sp_n,Nat.reduceLT,hn,Nat.zero_mul,Nat.add_zero]⟩ ?_
    clear hn s1 s2 s4 s6 s7 s8 s hd
    rintro k s H2 ⟨q,hq,rfl,hH2,hn,s1,s2,s4,s6,s7,s8,s9,s10⟩ ih2
    have hCH2 : Nx C.next C H2 := hH.trans (hH2.le nH)
    have nH2 := hCH2.next
    have hAH2 : Nx A.next A H2 := hAC.trans (hCH2.le hAC.next)
    have c0 := (hCH2.cl nAC 0).trans b0
    have c1 := (hCH2.cl nAC 1).trans b1
    have c2 := (hCH2.cl nAC 2).trans b2
    have hsl := sumA_lim hlim step (x.st.length + c) q
    have hQ2 : Q * 1 ≤ Q * step := Nat.mul_le_mul_left _ hs0
    have hqm : (q : Int) * (m : Int) ≤ 2400000 * 65521 := by
      have h1 : q * m ≤ 2400000 * 65521 := Nat.mul_le_mul (by omega) hm.2
      rw [← Int.natCast_mul]
      omega
    (repeat (first | refine Rn.seq hc ?_ | refine Rn.skip hc ?_ | refine Rn.block hc ?_ | refine Rn.inBlock hc ?_ | refine Rn.scope hc ?_ | refine Rn.inScope hc ?_))
    by_cases hlq : q < Q
    · have hqs : (q + 1) * step ≤ Q * step := Nat.mul_le_mul_right _ hlq
      rw [Nat.succ_mul] at hqs
      have hd : decide (((c + q * step : Nat) : Int) < (B : Int)) = true := decide_eq_true (by omega)
      have hw1 : IntKind.i64.wrap ((x.st.length : Int) + ((c + q * step : Nat) : Int)) = ((x.st.length + (c + q * step) : Nat) : Int) := by rw [IntWalk.i64_in _ (by omega)]; omega
      have hlv := hlim (x.st.length + (c + q * step))
      have hw2 : IntKind.i64.wrap (sumA x.s step (x.st.length + c) q + x.s (x.st.length + (c + q * step))) = sumA x.s step (x.st.length + c) (q + 1) := by
        rw [IntWalk.i64_in _ ⟨by omega,by omega⟩,sumA,Nat.add_assoc]
      have hw3 : IntKind.i64.wrap (((c + q * step : Nat) : Int) + (step : Int)) = ((c + (q + 1) * step : Nat) : Int) := by rw [IntWalk.i64_in _ (by omega),Nat.succ_mul]; omega
      refine Rn.reg hc rfl ?_
      simp only [zAY,zAU,zAT,sp_n,Nat.reduceLT,ne_eq,Nat.reduceEqDiff,zNf,gd,zAX,rops,fx,zAK,zOi,zEl,hn,s6,s10,hd]
      (repeat (first | refine Rn.seq hc ?_ | refine Rn.skip hc ?_ | refine Rn.block hc ?_ | refine Rn.inBlock hc ?_ | refine Rn.scope hc ?_ | refine Rn.inScope hc ?_))
      refine Rn.zAL hc rfl ?_
      simp only [zAY,zAU,sp_n,Nat.reduceLT,Value.bool.injEq,zEl,hn]
      (repeat (first | refine Rn.seq hc ?_ | refine Rn.skip hc ?_ | refine Rn.block hc ?_ | refine Rn.inBlock hc ?_ | refine Rn.scope hc ?_ | refine Rn.inScope hc ?_))
      refine Rn.region hc fun K hK => ?_
      refine Wo.run hc 7 rfl rfl rfl ?_
      simp (maxSteps := 2000000) only [List.drop_zero,List.take_succ_cons,List.take_zero,zAY,zAU,zAT,sp_n,Nat.reduceLT,ne_eq,Nat.reduceEqDiff,not_false_eq_true,gd,zAX,rops,fx,ld,fad,lng,zAC,zAR,cls,Nat.zero_add,Option.some.injEq,exists_eq_left',Nat.reduceAdd,tk22,tk24,zBQ,un22,hn,s2,s9,s10,c0,c1,c2,hw1]
      refine Wo.call hc (by rfl) (by rfl) ⟨by rfl,by rfl⟩ (xs := [.agg #[.int .i64 x.m,.slice x.sa x.st.length x.sc,.slice x.ra x.ro.length x.rc],.int .i64 ((x.st.length + (c + q * step) : Nat) : Int)]) (by rfl) (by rfl) (by simp only [zAY,zAU,zAT,sp_n,Nat.reduceLT,ne_eq,Nat.reduceEqDiff,zNf,List.map_cons,List.map_nil,List.nil_append,List.append_nil,hn]) (Con.mono (at_ref hAH2.wf (hox.nx hAH2).1 (hox.nx hAH2).2.1 (x.st.length + (c + q * step)) hox.2.2.1 (by omega) hox.2.2.2 (by omega)) ?_)
      rintro w H3 ⟨rfl,hx3⟩
      rw [show atL x.st x.ro (x.st.length + (c + q * step)) = x.s (x.st.length + (c + q * step)) from rfl]
      refine Wo.run hc 2 rfl rfl rfl ?_
      simp (maxSteps := 2000000) only [List.drop_zero,List.drop_succ_cons,List.take_succ_cons,List.take_zero,zAY,zAU,zAT,sp_n,Nat.reduceLT,ne_eq,Nat.reduceEqDiff,not_false_eq_true,gd,zAX,rops,fx,zAC,Option.some.injEq,exists_eq_left',Nat.reduceAdd,hn,hw2]
      refine Wo.done hc rfl (hK _ _ ?_)
      clear hK
      (repeat (first | refine Rn.seq hc ?_ | refine Rn.skip hc ?_ | refine Rn.block hc ?_ | refine Rn.inBlock hc ?_ | refine Rn.scope hc ?_ | refine Rn.inScope hc ?_))
      refine Rn.reg hc rfl ?_
      simp only [zAY,zAU,zAT,sp_n,Nat.reduceLT,ne_eq,Nat.reduceEqDiff,zNf,gd,zAX,rops,fx,zAC,zOi,zEl,hn,s1,s10,hw3]
      (repeat (first | refine Rn.seq hc ?_ | refine Rn.skip hc ?_ | refine Rn.block hc ?_ | refine Rn.inBlock hc ?_ | refine Rn.scope hc ?_ | refine Rn.inScope hc ?_))
      exact ih2 _ _ _ (by omega) ⟨q + 1,by omega,rfl,hH2.trans (hx3.le hH2.next),by simp only [sp_n,hn],by simp only [zAT,ne_eq,Nat.reduceEqDiff,zNf,s1],by simp only [zAT,ne_eq,Nat.reduceEqDiff,zNf,s2],by simp only [zAT,ne_eq,Nat.reduceEqDiff,zNf,s4],by simp only [zAT,ne_eq,Nat.reduceEqDiff,zNf,s6],by simp only [zAT,ne_eq,Nat.reduceEqDiff,zNf,s7],by simp only [zAT,ne_eq,Nat.reduceEqDiff,zNf,s8],by simp only [zAU,zAT,sp_n,Nat.reduceLT,ne_eq,Nat.reduceEqDiff,zNf,hn],by simp only [zAU,sp_n,Nat.reduceLT,hn]⟩
    · have hqQ : q = Q := by omega
      subst hqQ
      clear ih2
      have hd : decide (((c + q * step : Nat) : Int) < (B : Int)) = false := decide_eq_false (by omega)
      refine Rn.reg hc rfl ?_
      simp only [zAY,zAU,zAT,sp_n,Nat.reduceLT,ne_eq,Nat.reduceEqDiff,zNf,gd,zAX,rops,fx,zAK,zOi,zEl,hn,s6,s10,hd]
      (repeat (first | refine Rn.seq hc ?_ | refine Rn.skip hc ?_ | refine Rn.block hc ?_ | refine Rn.inBlock hc ?_ | refine Rn.scope hc ?_ | refine Rn.inScope hc ?_))
      refine Rn.zAL hc rfl ?_
      simp only [zAY,zAU,sp_n,Nat.reduceLT,Value.bool.injEq,zEl,hn]
      (repeat (first | refine Rn.seq hc ?_ | refine Rn.skip hc ?_ | refine Rn.block hc ?_ | refine Rn.inBlock hc ?_ | refine Rn.scope hc ?_ | refine Rn.inScope hc ?_))
      refine Rn.exit hc rfl ?_
      (repeat (first | refine Rn.seq hc ?_ | refine Rn.skip hc ?_ | refine Rn.block hc ?_ | refine Rn.inBlock hc ?_ | refine Rn.scope hc ?_ | refine Rn.inScope hc ?_))
      obtain ⟨d,hdd⟩ : ∃ d,d = dC m x.s step B x.st.length ((x.st.length + c) % step) := ⟨_,rfl⟩
      have hde : (d : Int) = sumA x.s step (x.st.length + c) q % (m : Int) := by
        rw [hdd,dC_eq (show 0 < m by omega) hs0 hP' (show x.st.length ≤ x.st.length + c by omega),hQ,scD_sum (by omega) hs0]
      have hdm : d < m := by
        have := Int.emod_lt_of_pos (sumA x.s step (x.st.length + c) q) (show (0 : Int) < (m : Int) by omega)
        omega
      have hPx : P c = m / Nat.gcd d m := by rw [hPv,hdd,Nat.gcd_comm]; rfl
      have hg0 : 0 < Nat.gcd d m := Nat.gcd_pos_of_pos_right _ (by omega)
      have hT0 : 0 < lcmF P c := lcmF_pos hPp hcs
      have hPle : P c ≤ m := by rw [hPx]; exact Nat.div_le_self _ _
      have hr : ∀ M,bin Try.prog .rem 3 (.int .i64 (sumA x.s step (x.st.length + c) q)) (.int .i64 x.m) M = some (.int .i64 (d : Int),M) := fun M => by
        rw [zBB _ _ _ _ (by omega),Int.tmod_eq_emod_of_nonneg hsl.1,hde,hxm]
      have hqt : ∀ M,bin Try.prog .quo 3 (.int .i64 x.m) (.int .i64 ((Nat.gcd d m : Nat) : Int)) M = some (.int .i64 (P c : Int),M) := fun M => by rw [hxm,quo_nat hg0 (by omega),hPx]
      obtain ⟨F,hFb,hF⟩ : ∃ F : AHeap → Prop,(∀ M,F M → ∀ b,b < H2.next → ∀ o,cl M b o = cl H2 b o) ∧ (∀ M,Nx H2.next H2 M → F M) := ⟨fun M => Nx H2.next H2 M,fun M h b hb o => h.cl hb o,fun _ h => h⟩
      have FM0 := fun M hM => (hFb M hM A.next (by omega) 0).trans c0
      have hbk : Nx H2.next H2 (bump H2 13) := Nx.bump (Nx.refl hH2.wf _) 13
      have FB := hF _ hbk
      refine Rn.drawnF hc hx (rfS (Nat.gcd d m) (lcmF P (c + 1))) F (n := 2) (k := 13) (by kernel_rfl) (by kernel_rfl) (by rfl) ?_
      refine Dr.read (by first | rfl | kernel_rfl) (by rfl) (by assumption) (fun M hM => by simp only [zAY,zAT,ne_eq,Nat.reduceEqDiff,zNf,fx,s7] <;> rfl) (by rfl) (by first | exact VQ.int _ _ | exact VQ.bool _ | exact VQ.ptr _ _ | exact VQ.slice _ _ _ | exact VQ.func (by simp [zAW,zAV,zAZ]) (by simp [zAW,zAV,zAZ]) | exact VQ.agg (by simp [zAW,zAV,zAZ]) | exact VQ.tuple (by simp [zAW,zAV,zAZ])) ?_
      refine Dr.read (by first | rfl | kernel_rfl) (by rfl) (by assumption) (fun M hM => by simp only [zAY,zAT,ne_eq,Nat.reduceEqDiff,zNf,fx,fad,zAR,Nat.add_zero,zBO,s2] <;> rfl) (by rfl) (by first | exact VQ.int _ _ | exact VQ.bool _ | exact VQ.ptr _ _ | exact VQ.slice _ _ _ | exact VQ.func (by simp [zAW,zAV,zAZ]) (by simp [zAW,zAV,zAZ]) | exact VQ.agg (by simp [zAW,zAV,zAZ]) | exact VQ.tuple (by simp [zAW,zAV,zAZ])) ?_
      refine Dr.read (by first | rfl | kernel_rfl) (by rfl) (by assumption) (fun M hM => by simp only [zAY,zAU,sp_n,Nat.reduceLT,fx,ld,zAR,tk3,hn,FM0 M hM] <;> rfl) (by rfl) (by first | exact VQ.int _ _ | exact VQ.bool _ | exact VQ.ptr _ _ | exact VQ.slice _ _ _ | exact VQ.func (by simp [zAW,zAV,zAZ]) (by simp [zAW,zAV,zAZ]) | exact VQ.agg (by simp [zAW,zAV,zAZ]) | exact VQ.tuple (by simp [zAW,zAV,zAZ])) ?_
      refine Dr.read (by first | rfl | kernel_rfl) (by rfl) (by assumption) (fun M hM => by simp only [zAY,zAT,ne_eq,Nat.reduceEqDiff,zNf,fx,s9] <;> rfl) (by rfl) (by first | exact VQ.int _ _ | exact VQ.bool _ | exact VQ.ptr _ _ | exact VQ.slice _ _ _ | exact VQ.func (by simp [zAW,zAV,zAZ]) (by simp [zAW,zAV,zAZ]) | exact VQ.agg (by simp [zAW,zAV,zAZ]) | exact VQ.tuple (by simp [zAW,zAV,zAZ])) ?_
      refine Dr.read (by first | rfl | kernel_rfl) (by rfl) (by assumption) (fun M hM => by simp only [zAY,zAT,ne_eq,Nat.reduceEqDiff,zNf,fx,fad,zAR,Nat.add_zero,zBO,s2] <;> rfl) (by rfl) (by first | exact VQ.int _ _ | exact VQ.bool _ | exact VQ.ptr _ _ | exact VQ.slice _ _ _ | exact VQ.func (by simp [zAW,zAV,zAZ]) (by simp [zAW,zAV,zAZ]) | exact VQ.agg (by simp [zAW,zAV,zAZ]) | exact VQ.tuple (by simp [zAW,zAV,zAZ])) ?_
      refine Dr.read (by first | rfl | kernel_rfl) (by rfl) (by assumption) (fun M hM => by simp only [zAY,zAU,sp_n,Nat.reduceLT,fx,ld,zAR,tk3,hn,FM0 M hM] <;> rfl) (by rfl) (by first | exact VQ.int _ _ | exact VQ.bool _ | exact VQ.ptr _ _ | exact VQ.slice _ _ _ | exact VQ.func (by simp [zAW,zAV,zAZ]) (by simp [zAW,zAV,zAZ]) | exact VQ.agg (by simp [zAW,zAV,zAZ]) | exact VQ.tuple (by simp [zAW,zAV,zAZ])) ?_
      refine Dr.read (by first | rfl | kernel_rfl) (by rfl) (by assumption) (fun M hM => by simp only [zAY,zAU,zAT,sp_n,Nat.reduceLT,ne_eq,Nat.reduceEqDiff,zNf,fx,hn,hr] <;> rfl) (by rfl) (by first | exact VQ.int _ _ | exact VQ.bool _ | exact VQ.ptr _ _ | exact VQ.slice _ _ _ | exact VQ.func (by simp [zAW,zAV,zAZ]) (by simp [zAW,zAV,zAZ]) | exact VQ.agg (by simp [zAW,zAV,zAZ]) | exact VQ.tuple (by simp [zAW,zAV,zAZ])) ?_
      refine Dr.read (by first | rfl | kernel_rfl) (by rfl) (by assumption) (fun M hM => by simp only [zAY,zAT,ne_eq,Nat.reduceEqDiff,zNf,fx,fad,zAR,Nat.add_zero,zBO,s2] <;> rfl) (by rfl) (by first | exact VQ.int _ _ | exact VQ.bool _ | exact VQ.ptr _ _ | exact VQ.slice _ _ _ | exact VQ.func (by simp [zAW,zAV,zAZ]) (by simp [zAW,zAV,zAZ]) | exact VQ.agg (by simp [zAW,zAV,zAZ]) | exact VQ.tuple (by simp [zAW,zAV,zAZ])) ?_
      refine Dr.read (by first | rfl | kernel_rfl) (by rfl) (by assumption) (fun M hM => by simp only [zAY,zAU,sp_n,Nat.reduceLT,fx,ld,zAR,tk3,hn,FM0 M hM] <;> rfl) (by rfl) (by first | exact VQ.int _ _ | exact VQ.bool _ | exact VQ.ptr _ _ | exact VQ.slice _ _ _ | exact VQ.func (by simp [zAW,zAV,zAZ]) (by simp [zAW,zAV,zAZ]) | exact VQ.agg (by simp [zAW,zAV,zAZ]) | exact VQ.tuple (by simp [zAW,zAV,zAZ])) ?_
      refine Dr.call (by kernel_rfl) (by rfl) (by assumption) (by rfl) (zBU (by rfl) ⟨by rfl,by rfl⟩ (by rfl) (xs := [.int .i64 (d : Int),.int .i64 (m : Int)]) (by rw [← hxm]; simp only [zAY,zAU,zAT,sp_n,Nat.reduceLT,ne_eq,Nat.reduceEqDiff,zNf,List.map_cons,List.map_nil,List.nil_append,List.append_nil,hn]) (Con.mono (gcd_ref hbk.wf (a := d) (b := m) (by omega) (by omega)) fun v A1 h => (h : v = .int .i64 ((Nat.gcd d m : Nat) : Int) ∧ Nx (bump H2 13).next (bump H2 13) A1))) ?_
      rintro v M1 ⟨rfl,k1⟩
      have hM1 : Nx H2.next H2 M1 := hbk.trans (k1.le hbk.next)
      have FM1 := hF _ hM1
      refine Dr.read (by first | rfl | kernel_rfl) (by rfl) (by assumption) (fun M hM => by simp only [zAY,zAU,zAT,sp_n,Nat.reduceLT,ne_eq,Nat.reduceEqDiff,zNf,fx,hn,hqt] <;> rfl) (by rfl) (by first | exact VQ.int _ _ | exact VQ.bool _ | exact VQ.ptr _ _ | exact VQ.slice _ _ _ | exact VQ.func (by simp [zAW,zAV,zAZ]) (by simp [zAW,zAV,zAZ]) | exact VQ.agg (by simp [zAW,zAV,zAZ]) | exact VQ.tuple (by simp [zAW,zAV,zAZ])) ?_
      refine Dr.call (by kernel_rfl) (by rfl) (by assumption) (by rfl) (zBU (by rfl) ⟨by rfl,by rfl⟩ (by rfl) (xs := [.int .i64 ((lcmF P c : Nat) : Int),.int .i64 (P c : Int)]) (by simp only [zAY,zAU,zAT,sp_n,Nat.reduceLT,ne_eq,Nat.reduceEqDiff,zNf,List.map_cons,List.map_nil,List.nil_append,List.append_nil,hn]) (Con.mono (lcm_ref2 hM1.wf (a := lcmF P c) (b := P c) ⟨hT0,by omega⟩ ⟨hPp c hlc,by omega⟩) fun v A1 h => (h : v = .int .i64 ((lcmF P (c + 1) : Nat) : Int) ∧ Nx M1.next M1 A1))) ?_
      rintro v M2 ⟨rfl,k2⟩
      have hM2 : Nx H2.next H2 M2 := hM1.trans (k2.le hM1.next)
      have FM2 := hF _ hM2
      refine Dr.read (by first | rfl | kernel_rfl) (by rfl) (by assumption) (fun M hM => by simp only [zAY,zAU,sp_n,Nat.reduceLT,fx,hn] <;> rfl) (by rfl) (by first | exact VQ.int _ _ | exact VQ.bool _ | exact VQ.ptr _ _ | exact VQ.slice _ _ _ | exact VQ.func (by simp [zAW,zAV,zAZ]) (by simp [zAW,zAV,zAZ]) | exact VQ.agg (by simp [zAW,zAV,zAZ]) | exact VQ.tuple (by simp [zAW,zAV,zAZ])) ?_
      refine Dr.nil (by rfl) (fun M hM => by cases hM) FM2 ⟨M2,by rfl,?_⟩
      (repeat (first | refine Rn.seq hc ?_ | refine Rn.skip hc ?_ | refine Rn.block hc ?_ | refine Rn.inBlock hc ?_ | refine Rn.scope hc ?_ | refine Rn.inScope hc ?_))
      have hCM : Nx C.next C M2 := hCH2.trans (hM2.le nH2)
      have hAM : Nx A.next A M2 := hAC.trans (hCM.le hAC.next)
      have z2 : cl M2 A.next 2 = _ := (hCM.cl nAC 2).trans b2
      have hTle : lcmF P (c + 1) ≤ 120 * 65521 := Nat.le_trans lcmN_le (Nat.mul_le_mul h120 (by omega))
      have hTR : lcmF P (c + 1) * x.ro.length ≤ (120 * 65521) * 20000 := Nat.mul_le_mul hTle h12.2
      have hwm : IntKind.i64.wrap (((lcmF P (c + 1) : Nat) : Int) * (x.ro.length : Int)) = ((lcmF P (c + 1) * x.ro.length : Nat) : Int) := by rw [← Int.natCast_mul,IntWalk.i64_in _ (by omega)]
      by_cases hlong : 120 < lcmF P (c + 1) * x.ro.length
      · have hd2 : decide (120 < ((lcmF P (c + 1) * x.ro.length : Nat) : Int)) = true := decide_eq_true (by omega)
        obtain ⟨D,q1,g0,g1,g2,hxD⟩ := err_fin hAM (by omega) (by have := hCM.next; omega) ((hCM.keep _ hpRC).trans lC)
        refine Rn.reg hc rfl ?_
        simp only [zAY,zAS,zAU,zAT,sp_n,Nat.reduceLT,ne_eq,Nat.reduceEqDiff,zNf,gd,zAX,rops,fx,ld,fad,lng,zBX,bin_mul,zAR,Nat.zero_add,zOi,zEl,tk22,zBE,un22,hn,s2,z2,hwm,hd2]
        (repeat (first | refine Rn.seq hc ?_ | refine Rn.skip hc ?_ | refine Rn.block hc ?_ | refine Rn.inBlock hc ?_ | refine Rn.scope hc ?_ | refine Rn.inScope hc ?_))
        refine Rn.zAL hc rfl ?_
        simp only [zAY,zAU,sp_n,Nat.reduceLT,Value.bool.injEq,zEl,hn]
        (repeat (first | refine Rn.seq hc ?_ | refine Rn.skip hc ?_ | refine Rn.block hc ?_ | refine Rn.inBlock hc ?_ | refine Rn.scope hc ?_ | refine Rn.inScope hc ?_))
        refine Rn.reg hc rfl ?_
        simp only [zAY,zAS,zAU,zAT,sp_n,zAO,Nat.reduceLT,ne_eq,Nat.reduceEqDiff,zNf,gd,zAX,rops,fx,str,zAR,Nat.zero_add,zOi,zEl,Nat.reduceAdd,tk24,hn,s4,bd24_z,q1,List.size_toArray,List.length_cons,List.length_nil,Nat.beq_refl]
        (repeat (first | refine Rn.seq hc ?_ | refine Rn.skip hc ?_ | refine Rn.block hc ?_ | refine Rn.inBlock hc ?_ | refine Rn.scope hc ?_ | refine Rn.inScope hc ?_))
        refine Rn.ret (zBR rfl (v := .agg #[.int .i64 0,.slice none 0 0,.slice none 0 0]) ?_ ?_)
        · simp only [zAT,ne_eq,Nat.reduceEqDiff,zNf,ld,zAR,cls,Nat.zero_add,Nat.reduceAdd,tk24,s4,g0,g1,g2]
        · simp only [zAU,sp_n,Nat.reduceLT,hn]
          refine ⟨hxD,.inl ⟨rfl,⟨x.st.length,m * B,?_⟩,fun b p hr => ?_⟩⟩
          · rw [hxm]
            exact scn_per_m (show 0 < m by omega) hs0 f1 hdvS hP'
          · rw [hxm] at hr
            exact long_ref2 (show 0 < m by omega) hs0 hlim hR f1 hdvS hdvR (P := P) (i := c + 1) (fun c' _ => ⟨_,Nat.mod_lt _ hs0,hPv c'⟩) hlong hr
      · have hd2 : decide (120 < ((lcmF P (c + 1) * x.ro.length : Nat) : Int)) = false := decide_eq_false (by omega)
        have hT1 : lcmF P (c + 1) * 1 ≤ lcmF P (c + 1) * x.ro.length := Nat.mul_le_mul_left _ h12.1
        refine Rn.reg hc rfl ?_
        simp only [zAY,zAS,zAU,zAT,sp_n,Nat.reduceLT,ne_eq,Nat.reduceEqDiff,zNf,gd,zAX,rops,fx,ld,fad,lng,zBX,bin_mul,zAR,Nat.zero_add,zOi,zEl,tk22,zBE,un22,hn,s2,z2,hwm,hd2]
        (repeat (first | refine Rn.seq hc ?_ | refine Rn.skip hc ?_ | refine Rn.block hc ?_ | refine Rn.inBlock hc ?_ | refine Rn.scope hc ?_ | refine Rn.inScope hc ?_))
        refine Rn.zAL hc rfl ?_
        simp only [zAY,zAU,sp_n,Nat.reduceLT,Value.bool.injEq,zEl,hn]
        (repeat (first | refine Rn.seq hc ?_ | refine Rn.skip hc ?_ | refine Rn.block hc ?_ | refine Rn.inBlock hc ?_ | refine Rn.scope hc ?_ | refine Rn.inScope hc ?_))
        refine Rn.reg hc rfl ?_
        simp only [zAY,zAS,zAU,zAT,sp_n,Nat.reduceLT,ne_eq,Nat.reduceEqDiff,zNf,gd,zAX,rops,fx,zAC,zOi,zEl,hn,s8,zBW (show c < 9223372036854775807 by omega)]
        (repeat (first | refine Rn.seq hc ?_ | refine Rn.skip hc ?_ | refine Rn.block hc ?_ | refine Rn.inBlock hc ?_ | refine Rn.scope hc ?_ | refine Rn.inScope hc ?_))
        exact ih _ _ _ (by omega) ⟨c + 1,by omega,rfl,hCM,by omega,.inr (by omega),by simp only [sp_n,hn],by simp only [zAT,ne_eq,Nat.reduceEqDiff,zNf,s1],by simp only [zAT,ne_eq,Nat.reduceEqDiff,zNf,s2],by simp only [zAT,ne_eq,Nat.reduceEqDiff,zNf,s4],by simp only [zAT,ne_eq,Nat.reduceEqDiff,zNf,s6],by simp only [zAU,zAT,sp_n,Nat.reduceLT,ne_eq,Nat.reduceEqDiff,zNf,hn],by simp only [zAU,sp_n,Nat.reduceLT,hn]⟩
  · have hd : decide ((c : Int) < (step : Int)) = false := decide_eq_false (by omega)
    have hcl : c = step := by omega
    subst hcl
    clear ih
    refine Rn.reg hc rfl ?_
    simp only [zAY,zAU,zAT,sp_n,Nat.reduceLT,ne_eq,Nat.reduceEqDiff,zNf,gd,zAX,rops,fx,zAK,zOi,zEl,hn,s1,s8,hd]
    (repeat (first | refine Rn.seq hc ?_ | refine Rn.skip hc ?_ | refine Rn.block hc ?_ | refine Rn.inBlock hc ?_ | refine Rn.scope hc ?_ | refine Rn.inScope hc ?_))
    refine Rn.zAL hc rfl ?_
    simp only [zAY,zAU,sp_n,Nat.reduceLT,Value.bool.injEq,zEl,hn]
    (repeat (first | refine Rn.seq hc ?_ | refine Rn.skip hc ?_ | refine Rn.block hc ?_ | refine Rn.inBlock hc ?_ | refine Rn.scope hc ?_ | refine Rn.inScope hc ?_))
    refine Rn.exit hc rfl ?_
    (repeat (first | refine Rn.seq hc ?_ | refine Rn.skip hc ?_ | refine Rn.block hc ?_ | refine Rn.inBlock hc ?_ | refine Rn.scope hc ?_ | refine Rn.inScope hc ?_))
    have hT0 : 0 < lcmF P c := lcmF_pos hPp (Nat.le_refl _)
    have hTd : ∀ i',i' < c → ordN m (dC m x.s c B x.st.length i') ∣ lcmF P c := fun i' hi' => by
      obtain ⟨n,r1,r2,r3⟩ := cls_rep (M := x.st.length) hi'
      have h1 := lcmF_dvd (f := P) (i := c) (j := n - x.st.length) (by omega)
      rw [hPv,show x.st.length + (n - x.st.length) = n by omega,r3] at h1
      exact h1
    have hTR : lcmF P c * x.ro.length ≤ 120 := by omega
    have hR120 : x.ro.length ≤ 120 := by
      have : 1 * x.ro.length ≤ lcmF P c * x.ro.length := Nat.mul_le_mul_right _ hT0
      omega
    have hB144 := hB120 hR120
    generalize lcmF P c = T at hT0 hTd h120 s7 hTR
    have hPerY := scn_per (show 0 < m by omega) hs0 f1 hdvS hP' hT0 hTd
    have hTB : T * B ≤ 120 * 14400 := Nat.mul_le_mul h120 hB144
    have hTB0 : 0 < T * B := Nat.mul_pos hT0 f1
    have hwm : IntKind.i64.wrap ((B : Int) * (T : Int)) = ((T * B : Nat) : Int) := by rw [Int.mul_comm,← Int.natCast_mul,IntWalk.i64_in _ (by omega)]
    refine Rn.reg hc rfl ?_
    simp only [zAY,zAU,zAT,sp_n,Nat.reduceLT,ne_eq,Nat.reduceEqDiff,zNf,gd,zAX,rops,fx,bin_mul,zOi,zEl,hn,s6,s7,hwm]
    (repeat (first | refine Rn.seq hc ?_ | refine Rn.skip hc ?_ | refine Rn.block hc ?_ | refine Rn.inBlock hc ?_ | refine Rn.scope hc ?_ | refine Rn.inScope hc ?_))
    refine Rn.reg hc rfl ?_
    simp only [zAS,gd,zAX,rops,fx,zOi,zEl]
    (repeat (first | refine Rn.seq hc ?_ | refine Rn.skip hc ?_ | refine Rn.block hc ?_ | refine Rn.inBlock hc ?_ | refine Rn.scope hc ?_ | refine Rn.inScope hc ?_))
    refine Rn.reg hc rfl ?_
    simp only [zAS,gd,zAX,rops,fx,zOi,zEl]
    (repeat (first | refine Rn.seq hc ?_ | refine Rn.skip hc ?_ | refine Rn.block hc ?_ | refine Rn.inBlock hc ?_ | refine Rn.scope hc ?_ | refine Rn.inScope hc ?_))
    generalize T * B = L at hPerY hTB hTB0 ⊢
    clear hwm hTR hTd hPv hPp hcR h120 s7 hd
    refine Rn.loopI hc (I := fun k s G => ∃ n wa,n ≤ x.st.length + L ∧ k = x.st.length + L - n ∧ Nx H.next H G ∧ Gr G wa H.next (redS (scn (m : Int) x.s c) n) ∧ s.n = 106 ∧ sget s 1 = .int .i64 (c : Int) ∧ sget s 2 = .pointer (some ⟨A.next,0,none⟩) ∧ sget s 4 = .pointer (some ⟨pR,0,none⟩) ∧ sget s 6 = .int .i64 (L : Int) ∧ sget s 11 = .slice wa n n ∧ sget s 12 = .int .i64 (n : Int))
      (n := x.st.length + L) ⟨0,none,by omega,rfl,Nx.refl hH.wf _,Gr.nil _ _,by simp only [sp_n,hn],by simp only [zAT,ne_eq,Nat.reduceEqDiff,zNf,s1],by simp only [zAT,ne_eq,Nat.reduceEqDiff,zNf,s2],by simp only [zAT,ne_eq,Nat.reduceEqDiff,zNf,s4],by simp only [zAU,zAT,sp_n,Nat.reduceLT,ne_eq,Nat.reduceEqDiff,zNf,hn],by simp only [zAU,zAT,sp_n,Nat.reduceLT,ne_eq,Nat.reduceEqDiff,zNf,hn],by simp only [zAU,sp_n,Nat.reduceLT,hn]; rfl⟩ ?_
    clear hn s1 s2 s4 s6 s8 s
    rintro k s G ⟨n,wa,hnL,rfl,hG,gG,hn,s1,s2,s4,s6,s11,s12⟩ ih
    have hCG : Nx C.next C G := hH.trans (hG.le nH)
    have nG := hG.next
    have hAG : Nx A.next A G := hAC.trans (hCG.le hAC.next)
    have c0 := (hCG.cl nAC 0).trans b0
    have c1 := (hCG.cl nAC 1).trans b1
    have c2 := (hCG.cl nAC 2).trans b2
    have hw0 : IntKind.i64.wrap ((x.st.length : Int) + (L : Int)) = ((x.st.length + L : Nat) : Int) := by rw [IntWalk.i64_in _ (by omega)]; omega
    (repeat (first | refine Rn.seq hc ?_ | refine Rn.skip hc ?_ | refine Rn.block hc ?_ | refine Rn.inBlock hc ?_ | refine Rn.scope hc ?_ | refine Rn.inScope hc ?_))
    by_cases hlt : n < x.st.length + L
    · have hd : decide ((n : Int) < ((x.st.length + L : Nat) : Int)) = true := decide_eq_true (by omega)
      refine Rn.reg hc rfl ?_
      simp only [zAY,zAU,zAT,sp_n,Nat.reduceLT,ne_eq,Nat.reduceEqDiff,zNf,gd,zAX,rops,fx,ld,fad,lng,zAK,zAC,zAR,Nat.zero_add,zOi,zEl,tk22,zBQ,un22,hn,s2,s6,s12,c1,hw0,hd]
      (repeat (first | refine Rn.seq hc ?_ | refine Rn.skip hc ?_ | refine Rn.block hc ?_ | refine Rn.inBlock hc ?_ | refine Rn.scope hc ?_ | refine Rn.inScope hc ?_))
      refine Rn.zAL hc rfl ?_
      simp only [zAY,zAU,sp_n,Nat.reduceLT,Value.bool.injEq,zEl,hn]
      (repeat (first | refine Rn.seq hc ?_ | refine Rn.skip hc ?_ | refine Rn.block hc ?_ | refine Rn.inBlock hc ?_ | refine Rn.scope hc ?_ | refine Rn.inScope hc ?_))
      refine Rn.region hc fun K hK => ?_
      refine Wo.run hc 2 rfl rfl rfl ?_
      simp (maxSteps := 2000000) only [List.drop_zero,List.take_succ_cons,List.take_zero,zAY,zAT,ne_eq,Nat.reduceEqDiff,not_false_eq_true,gd,zAX,rops,fx,ld,zAR,cls,Nat.zero_add,Option.some.injEq,exists_eq_left',Nat.reduceAdd,tk24,s2,s12,c0,c1,c2]
      refine Wo.call hc (by rfl) (by rfl) ⟨by rfl,by rfl⟩ (xs := [.agg #[.int .i64 x.m,.slice x.sa x.st.length x.sc,.slice x.ra x.ro.length x.rc],.int .i64 (n : Int)]) (by rfl) (by rfl) (by simp only [zAY,zAU,zAT,sp_n,Nat.reduceLT,ne_eq,Nat.reduceEqDiff,zNf,List.map_cons,List.map_nil,List.nil_append,List.append_nil,hn]) (Con.mono (at_ref hAG.wf (hox.nx hAG).1 (hox.nx hAG).2.1 n hox.2.2.1 (by omega) hox.2.2.2 (by omega)) ?_)
      rintro w G1 ⟨rfl,hx1⟩
      rw [show atL x.st x.ro n = x.s n from rfl]
      refine Wo.run hc 1 rfl rfl rfl ?_
      simp (maxSteps := 2000000) only [List.drop_zero,List.drop_succ_cons,List.take_succ_cons,List.take_zero,zAY,zAU,sp_n,Nat.reduceLT,gd,zAX,rops,fx,Option.some.injEq,exists_eq_left',Nat.reduceAdd,hn]
      refine Wo.done hc rfl (hK _ _ ?_)
      clear hK
      have hlv := hlim n
      have hyl := scY_lim (a := x.s) (step := c) (show (0 : Int) < (m : Int) by omega) n
      have g1 := gG.nx (n := 0) hG.wf hx1
      refine Rn.seq hc ?_
      refine Rn.cut2 hc (Q1 := fun s ds D => ds = [] ∧ D = G1 ∧ s.n = 106 ∧ sget s 1 = .int .i64 (c : Int) ∧ sget s 2 = .pointer (some ⟨A.next,0,none⟩) ∧ sget s 4 = .pointer (some ⟨pR,0,none⟩) ∧ sget s 6 = .int .i64 (L : Int) ∧ sget s 11 = .slice wa n n ∧ sget s 12 = .int .i64 (n : Int) ∧ sget s 13 = .int .i64 (scY (m : Int) x.s c n + x.s n))
        (Q2 := fun _ _ _ => False) ?_ ?_ ?_
      · by_cases hns : n < c
        · have hd2 : decide ((c : Int) ≤ (n : Int)) = false := decide_eq_false (by omega)
          (repeat (first | refine Rn.seq hc ?_ | refine Rn.skip hc ?_ | refine Rn.block hc ?_ | refine Rn.inBlock hc ?_ | refine Rn.scope hc ?_ | refine Rn.inScope hc ?_))
          refine Rn.reg hc rfl ?_
          simp only [zAY,zAU,zAT,sp_n,Nat.reduceLT,ne_eq,Nat.reduceEqDiff,zNf,gd,zAX,rops,fx,bin_geq,zOi,zEl,hn,s1,s12,hd2]
          (repeat (first | refine Rn.seq hc ?_ | refine Rn.skip hc ?_ | refine Rn.block hc ?_ | refine Rn.inBlock hc ?_ | refine Rn.scope hc ?_ | refine Rn.inScope hc ?_))
          refine Rn.zAL hc rfl ?_
          simp only [zAY,zAU,sp_n,Nat.reduceLT,Value.bool.injEq,zEl,hn]
          (repeat (first | refine Rn.seq hc ?_ | refine Rn.skip hc ?_ | refine Rn.block hc ?_ | refine Rn.inBlock hc ?_ | refine Rn.scope hc ?_ | refine Rn.inScope hc ?_))
          refine Rn.fall ⟨rfl,rfl,by simp only [sp_n,hn],by simp only [zAT,ne_eq,Nat.reduceEqDiff,zNf,s1],by simp only [zAT,ne_eq,Nat.reduceEqDiff,zNf,s2],by simp only [zAT,ne_eq,Nat.reduceEqDiff,zNf,s4],by simp only [zAT,ne_eq,Nat.reduceEqDiff,zNf,s6],by simp only [zAT,ne_eq,Nat.reduceEqDiff,zNf,s11],by simp only [zAT,ne_eq,Nat.reduceEqDiff,zNf,s12],?_⟩
          rw [scY_zero hns,Int.zero_add]
          simp only [zAU,zAT,sp_n,Nat.reduceLT,ne_eq,Nat.reduceEqDiff,zNf,hn]
        · have hd2 : decide ((c : Int) ≤ (n : Int)) = true := decide_eq_true (by omega)
          have hws : IntKind.i64.wrap ((n : Int) - (c : Int)) = ((n - c : Nat) : Int) := by rw [IntWalk.i64_in _ (by omega)]; omega
          have hnl : n - c < n := by omega
          have hys : scn (m : Int) x.s c (n - c) = scY (m : Int) x.s c n := by
            unfold scn
            rw [Nat.sub_add_cancel (by omega)]
          obtain ⟨bw,ow,rfl,-,-,hcw⟩ := g1.ints (n - c) (by rw [zAI]; exact hnl)
          rw [redS_get hnl,hys] at hcw
          have hwa : IntKind.i64.wrap (x.s n + scY (m : Int) x.s c n) = scY (m : Int) x.s c n + x.s n := by rw [IntWalk.i64_in _ ⟨by omega,by omega⟩]; omega
          (repeat (first | refine Rn.seq hc ?_ | refine Rn.skip hc ?_ | refine Rn.block hc ?_ | refine Rn.inBlock hc ?_ | refine Rn.scope hc ?_ | refine Rn.inScope hc ?_))
          refine Rn.reg hc rfl ?_
          simp only [zAY,zAU,zAT,sp_n,Nat.reduceLT,ne_eq,Nat.reduceEqDiff,zNf,gd,zAX,rops,fx,bin_geq,zOi,zEl,hn,s1,s12,hd2]
          (repeat (first | refine Rn.seq hc ?_ | refine Rn.skip hc ?_ | refine Rn.block hc ?_ | refine Rn.inBlock hc ?_ | refine Rn.scope hc ?_ | refine Rn.inScope hc ?_))
          refine Rn.zAL hc rfl ?_
          simp only [zAY,zAU,sp_n,Nat.reduceLT,Value.bool.injEq,zEl,hn]
          (repeat (first | refine Rn.seq hc ?_ | refine Rn.skip hc ?_ | refine Rn.block hc ?_ | refine Rn.inBlock hc ?_ | refine Rn.scope hc ?_ | refine Rn.inScope hc ?_))
          refine Rn.reg hc rfl ?_
          simp only [zAY,zAU,zAT,sp_n,Nat.reduceLT,ne_eq,Nat.reduceEqDiff,zNf,gd,zAX,rops,fx,ld,idx,zAC,zBK,zAR,zOi,zEl,Nat.mul_one,tk3,eo22,hn,s1,s11,s12,hws,zAP hnl,hcw,hwa]
          (repeat (first | refine Rn.seq hc ?_ | refine Rn.skip hc ?_ | refine Rn.block hc ?_ | refine Rn.inBlock hc ?_ | refine Rn.scope hc ?_ | refine Rn.inScope hc ?_))
          exact Rn.fall ⟨rfl,rfl,by simp only [sp_n,hn],by simp only [zAT,ne_eq,Nat.reduceEqDiff,zNf,s1],by simp only [zAT,ne_eq,Nat.reduceEqDiff,zNf,s2],by simp only [zAT,ne_eq,Nat.reduceEqDiff,zNf,s4],by simp only [zAT,ne_eq,Nat.reduceEqDiff,zNf,s6],by simp only [zAT,ne_eq,Nat.reduceEqDiff,zNf,s11],by simp only [zAT,ne_eq,Nat.reduceEqDiff,zNf,s12],by simp only [zAU,sp_n,Nat.reduceLT,hn]⟩
      · clear hn s1 s2 s4 s6 s11 s12 s
        rintro s ds D ⟨rfl,rfl,hn,s1,s2,s4,s6,s11,s12,s13⟩
        have hr : ∀ M,bin Try.prog .rem 3 (.int .i64 (scY (m : Int) x.s c n + x.s n)) (.int .i64 x.m) M = some (.int .i64 (scn (m : Int) x.s c n),M) := fun M => by
          rw [zBB _ _ _ _ (by omega),Int.tmod_eq_emod_of_nonneg (by omega),scn_eq hs0,hxm]
        have hGD : Nx H.next H D := hG.trans (hx1.le nG)
        have z0 : cl D A.next 0 = _ := (hx1.cl (by omega) 0).trans c0
        obtain ⟨G2,e2,hz2,hn2,y2,-⟩ := box1 hGD.wf (.int .i64 (scn (m : Int) x.s c n)) 3
        have g2 := g1.nx (n := 0) hGD.wf hz2
        obtain ⟨G3,q3,n3,w3,g3,-,k3⟩ := gr_push hz2.wf g2 (a2 := some ⟨D.next,0,none⟩) (c2 := 1) (b2 := D.next) (x := scn (m : Int) x.s c n) rfl y2 (by rw [zAI]; omega)
        rw [zAI] at q3
        rw [redS_snoc] at g3
        have nD := hGD.next
        (repeat (first | refine Rn.seq hc ?_ | refine Rn.skip hc ?_ | refine Rn.block hc ?_ | refine Rn.inBlock hc ?_ | refine Rn.scope hc ?_ | refine Rn.inScope hc ?_))
        refine Rn.reg hc rfl ?_
        simp only [zAY,zAU,zAT,sp_n,Nat.reduceLT,ne_eq,Nat.reduceEqDiff,zNf,gd,zAX,rops,fx,ld,fad,zAR,Nat.add_zero,zOi,zEl,tk3,zBO,hn,s2,s11,s13,z0,hr,bs22_1,zBY,e2,ae_apd,zBD,q3]
        (repeat (first | refine Rn.seq hc ?_ | refine Rn.skip hc ?_ | refine Rn.block hc ?_ | refine Rn.inBlock hc ?_ | refine Rn.scope hc ?_ | refine Rn.inScope hc ?_))
        refine Rn.reg hc rfl ?_
        simp only [zAY,zAS,zAU,zAT,sp_n,Nat.reduceLT,ne_eq,Nat.reduceEqDiff,zNf,gd,zAX,rops,fx,zAC,zOi,zEl,hn,s12,zBW (show n < 9223372036854775807 by omega)]
        (repeat (first | refine Rn.seq hc ?_ | refine Rn.skip hc ?_ | refine Rn.block hc ?_ | refine Rn.inBlock hc ?_ | refine Rn.scope hc ?_ | refine Rn.inScope hc ?_))
        exact ih _ _ _ (by omega) ⟨n + 1,_,by omega,rfl,hGD.trans ((hz2.le nD).trans (k3.le (by omega))),g3.mono (by omega),by simp only [sp_n,hn],by simp only [zAT,ne_eq,Nat.reduceEqDiff,zNf,s1],by simp only [zAT,ne_eq,Nat.reduceEqDiff,zNf,s2],by simp only [zAT,ne_eq,Nat.reduceEqDiff,zNf,s4],by simp only [zAT,ne_eq,Nat.reduceEqDiff,zNf,s6],by simp only [zAU,zAT,sp_n,Nat.reduceLT,ne_eq,Nat.reduceEqDiff,zNf,hn],by simp only [zAU,sp_n,Nat.reduceLT,hn]⟩
      · intro _ _ _ h
        exact h.elim
    · have hd : decide ((n : Int) < ((x.st.length + L : Nat) : Int)) = false := decide_eq_false (by omega)
      have hnn : n = x.st.length + L := by omega
      subst hnn
      clear ih
      refine Rn.reg hc rfl ?_
      simp only [zAY,zAU,zAT,sp_n,Nat.reduceLT,ne_eq,Nat.reduceEqDiff,zNf,gd,zAX,rops,fx,ld,fad,lng,zAK,zAC,zAR,Nat.zero_add,zOi,zEl,tk22,zBQ,un22,hn,s2,s6,s12,c1,hw0,hd]
      (repeat (first | refine Rn.seq hc ?_ | refine Rn.skip hc ?_ | refine Rn.block hc ?_ | refine Rn.inBlock hc ?_ | refine Rn.scope hc ?_ | refine Rn.inScope hc ?_))
      refine Rn.zAL hc rfl ?_
      simp only [zAY,zAU,sp_n,Nat.reduceLT,Value.bool.injEq,zEl,hn]
      (repeat (first | refine Rn.seq hc ?_ | refine Rn.skip hc ?_ | refine Rn.block hc ?_ | refine Rn.inBlock hc ?_ | refine Rn.scope hc ?_ | refine Rn.inScope hc ?_))
      refine Rn.exit hc rfl ?_
      (repeat (first | refine Rn.seq hc ?_ | refine Rn.skip hc ?_ | refine Rn.block hc ?_ | refine Rn.inBlock hc ?_ | refine Rn.scope hc ?_ | refine Rn.inScope hc ?_))
      rw [show ScnQ x c A = fun v A1 => ScnQ x c A v A1 from rfl]
      unfold ScnQ
      rw [hxm]
      rw [hxm] at c0
      obtain ⟨Y,hY⟩ : ∃ Y,Y = scn (m : Int) x.s c := ⟨_,rfl⟩
      rw [← hY] at hPerY gG ⊢
      obtain ⟨bw,ow,rfl,hw1,hw2,-⟩ := gG.ints 0 (by rw [zAI]; omega)
      have hcell : ∀ q,q < x.st.length + L → cl G bw (ow + q) = some (.int .i64 (Y q)) := fun q hq => by
        obtain ⟨bb,oo,ee,-,-,h6⟩ := gG.ints q (by rw [zAI]; exact hq)
        cases ee
        rw [h6,redS_get hq]
      obtain ⟨F,hF0,hF1,hF3,hF4,hF⟩ : ∃ F : AHeap → Prop,(∀ M,F M → cl M A.next 0 = some (.int .i64 (m : Int))) ∧ (∀ M,F M → cl M A.next 1 = some (.slice x.sa x.st.length x.sc)) ∧ (∀ M,F M → asl Try.prog 22 (.slice (some ⟨bw,ow,none⟩) (x.st.length + L) (x.st.length + L)) none (some (.int .i64 (x.st.length : Int))) none M = some (.slice (some ⟨bw,ow,none⟩) x.st.length (x.st.length + L),M)) ∧ (∀ M,F M → asl Try.prog 22 (.slice (some ⟨bw,ow,none⟩) (x.st.length + L) (x.st.length + L)) (some (.int .i64 (x.st.length : Int))) none none M = some (.slice (some ⟨bw,ow + x.st.length,none⟩) L L,M)) ∧ (∀ M,Canon.look M.objs A.next = Canon.look G.objs A.next → (∀ b,H.next ≤ b → b < G.next → Canon.look M.objs b = Canon.look G.objs b) → F M) := by
        refine ⟨fun M => Canon.look M.objs A.next = Canon.look G.objs A.next ∧ ∀ b,H.next ≤ b → b < G.next → Canon.look M.objs b = Canon.look G.objs b,fun M h => (zAB h.1).trans c0,fun M h => (zAB h.1).trans c1,fun M h => ?_,fun M h => ?_,fun M h1 h2 => ⟨h1,h2⟩⟩
        · have he : ∀ b,H.next ≤ b → Canon.look G.objs b = none ∨ Canon.look M.objs b = Canon.look G.objs b := fun b hb => by
            by_cases hlt : b < G.next
            · exact .inr (h.2 b hb hlt)
            · exact .inl (hG.wf.none (by omega))
          have := asl_pos (c := x.st.length + L) (n := x.st.length) (gG.ints.ext he (Nat.le_refl _)) (gG.sl.ext he) (by rw [zAI]; exact Nat.le_refl _) (by rw [zAI]; omega) (by rw [zAI]; omega)
          rw [zAI] at this
          exact this
        · have he : ∀ b,H.next ≤ b → Canon.look G.objs b = none ∨ Canon.look M.objs b = Canon.look G.objs b := fun b hb => by
            by_cases hlt : b < G.next
            · exact .inr (h.2 b hb hlt)
            · exact .inl (hG.wf.none (by omega))
          rw [asl_lo1 (gG.sl.ext he) (show x.st.length < x.st.length + L by omega),Nat.add_sub_cancel_left]
      have hbk : Nx G.next G (bump G 16) := Nx.bump (Nx.refl hG.wf _) 16
      have FB := hF (bump G 16) rfl fun _ _ _ => rfl
      have hAk : Nx A.next A (bump G 16) := hAG.trans (hbk.le hAG.next)
      have gk := gG.nx (n := 0) hG.wf hbk
      have hlr := small_ref hbk.wf (m := (m : Int)) (sa := some ⟨bw,ow,none⟩) (ra := some ⟨bw,ow + x.st.length,none⟩) (sc := x.st.length + L) (rc := L) (st := redS Y x.st.length) (ro := redR Y x.st.length L)
        (fun q hq => ⟨bw,ow,rfl,Nat.zero_le _,by rw [zAH]; omega,by rw [zAI] at hq; rw [zBT,hcell q (by omega),redS_get hq]⟩)
        (fun q hq => ⟨bw,ow + x.st.length,rfl,Nat.zero_le _,by rw [zAH]; omega,by rw [zAF] at hq; rw [zBT,Nat.add_assoc,hcell _ (by omega),redR_get hq]⟩)
        (by rw [zAI]; omega) (by rw [zAF]; omega) (by rw [zAF]; exact hTB0) (fun y hy => by
          cases hy
          obtain ⟨-,p2,z,p3,p4⟩ := gk.sl _ rfl
          exact ⟨rfl,Nat.zero_le _,z,p3,p4⟩) (by rw [zAF]; exact Nat.le_refl _)
      rw [atL_redF hPerY] at hlr
      simp only [zAI,zAF] at hlr
      refine Rn.drawnF hc hx (smlS (m : Int) Y) F (n := 2) (k := 16) (by kernel_rfl) (by kernel_rfl) (by rfl) ?_
      refine Dr.read (by first | rfl | kernel_rfl) (by rfl) (by assumption) (fun M hM => by simp only [zAY,zAT,ne_eq,Nat.reduceEqDiff,zNf,fx,fad,zAR,Nat.add_zero,zBO,s2] <;> rfl) (by rfl) (by first | exact VQ.int _ _ | exact VQ.bool _ | exact VQ.ptr _ _ | exact VQ.slice _ _ _ | exact VQ.func (by simp [zAW,zAV,zAZ]) (by simp [zAW,zAV,zAZ]) | exact VQ.agg (by simp [zAW,zAV,zAZ]) | exact VQ.tuple (by simp [zAW,zAV,zAZ])) ?_
      refine Dr.read (by first | rfl | kernel_rfl) (by rfl) (by assumption) (fun M hM => by simp only [zAY,zAU,sp_n,Nat.reduceLT,fx,ld,zAR,tk3,hn,hF0 M hM] <;> rfl) (by rfl) (by first | exact VQ.int _ _ | exact VQ.bool _ | exact VQ.ptr _ _ | exact VQ.slice _ _ _ | exact VQ.func (by simp [zAW,zAV,zAZ]) (by simp [zAW,zAV,zAZ]) | exact VQ.agg (by simp [zAW,zAV,zAZ]) | exact VQ.tuple (by simp [zAW,zAV,zAZ])) ?_
      refine Dr.read (by first | rfl | kernel_rfl) (by rfl) (by assumption) (fun M hM => by simp only [zAY,zAT,ne_eq,Nat.reduceEqDiff,zNf,fx,s11] <;> rfl) (by rfl) (by first | exact VQ.int _ _ | exact VQ.bool _ | exact VQ.ptr _ _ | exact VQ.slice _ _ _ | exact VQ.func (by simp [zAW,zAV,zAZ]) (by simp [zAW,zAV,zAZ]) | exact VQ.agg (by simp [zAW,zAV,zAZ]) | exact VQ.tuple (by simp [zAW,zAV,zAZ])) ?_
      refine Dr.read (by first | rfl | kernel_rfl) (by rfl) (by assumption) (fun M hM => by simp only [zAY,zAT,ne_eq,Nat.reduceEqDiff,zNf,fx,fad,zAR,Nat.zero_add,zBQ,s2] <;> rfl) (by rfl) (by first | exact VQ.int _ _ | exact VQ.bool _ | exact VQ.ptr _ _ | exact VQ.slice _ _ _ | exact VQ.func (by simp [zAW,zAV,zAZ]) (by simp [zAW,zAV,zAZ]) | exact VQ.agg (by simp [zAW,zAV,zAZ]) | exact VQ.tuple (by simp [zAW,zAV,zAZ])) ?_
      refine Dr.read (by first | rfl | kernel_rfl) (by rfl) (by assumption) (fun M hM => by simp only [zAY,zAU,sp_n,Nat.reduceLT,fx,ld,zAR,tk22,hn,hF1 M hM] <;> rfl) (by rfl) (by first | exact VQ.int _ _ | exact VQ.bool _ | exact VQ.ptr _ _ | exact VQ.slice _ _ _ | exact VQ.func (by simp [zAW,zAV,zAZ]) (by simp [zAW,zAV,zAZ]) | exact VQ.agg (by simp [zAW,zAV,zAZ]) | exact VQ.tuple (by simp [zAW,zAV,zAZ])) ?_
      refine Dr.read (by first | rfl | kernel_rfl) (by rfl) (by assumption) (fun M hM => by simp only [zAY,zAU,sp_n,Nat.reduceLT,fx,lng,un22,hn] <;> rfl) (by rfl) (by first | exact VQ.int _ _ | exact VQ.bool _ | exact VQ.ptr _ _ | exact VQ.slice _ _ _ | exact VQ.func (by simp [zAW,zAV,zAZ]) (by simp [zAW,zAV,zAZ]) | exact VQ.agg (by simp [zAW,zAV,zAZ]) | exact VQ.tuple (by simp [zAW,zAV,zAZ])) ?_
      refine Dr.read (by first | rfl | kernel_rfl) (by rfl) (by assumption) (fun M hM => by simp only [zAY,zAU,zAT,sp_n,Nat.reduceLT,ne_eq,Nat.reduceEqDiff,zNf,fx,hn,ae_asl_hi,hF3 M hM] <;> rfl) (by rfl) (by first | exact VQ.int _ _ | exact VQ.bool _ | exact VQ.ptr _ _ | exact VQ.slice _ _ _ | exact VQ.func (by simp [zAW,zAV,zAZ]) (by simp [zAW,zAV,zAZ]) | exact VQ.agg (by simp [zAW,zAV,zAZ]) | exact VQ.tuple (by simp [zAW,zAV,zAZ])) ?_
      refine Dr.read (by first | rfl | kernel_rfl) (by rfl) (by assumption) (fun M hM => by simp only [zAY,zAT,ne_eq,Nat.reduceEqDiff,zNf,fx,s11] <;> rfl) (by rfl) (by first | exact VQ.int _ _ | exact VQ.bool _ | exact VQ.ptr _ _ | exact VQ.slice _ _ _ | exact VQ.func (by simp [zAW,zAV,zAZ]) (by simp [zAW,zAV,zAZ]) | exact VQ.agg (by simp [zAW,zAV,zAZ]) | exact VQ.tuple (by simp [zAW,zAV,zAZ])) ?_
      refine Dr.read (by first | rfl | kernel_rfl) (by rfl) (by assumption) (fun M hM => by simp only [zAY,zAT,ne_eq,Nat.reduceEqDiff,zNf,fx,fad,zAR,Nat.zero_add,zBQ,s2] <;> rfl) (by rfl) (by first | exact VQ.int _ _ | exact VQ.bool _ | exact VQ.ptr _ _ | exact VQ.slice _ _ _ | exact VQ.func (by simp [zAW,zAV,zAZ]) (by simp [zAW,zAV,zAZ]) | exact VQ.agg (by simp [zAW,zAV,zAZ]) | exact VQ.tuple (by simp [zAW,zAV,zAZ])) ?_
      refine Dr.read (by first | rfl | kernel_rfl) (by rfl) (by assumption) (fun M hM => by simp only [zAY,zAU,sp_n,Nat.reduceLT,fx,ld,zAR,tk22,hn,hF1 M hM] <;> rfl) (by rfl) (by first | exact VQ.int _ _ | exact VQ.bool _ | exact VQ.ptr _ _ | exact VQ.slice _ _ _ | exact VQ.func (by simp [zAW,zAV,zAZ]) (by simp [zAW,zAV,zAZ]) | exact VQ.agg (by simp [zAW,zAV,zAZ]) | exact VQ.tuple (by simp [zAW,zAV,zAZ])) ?_
      refine Dr.read (by first | rfl | kernel_rfl) (by rfl) (by assumption) (fun M hM => by simp only [zAY,zAU,sp_n,Nat.reduceLT,fx,lng,un22,hn] <;> rfl) (by rfl) (by first | exact VQ.int _ _ | exact VQ.bool _ | exact VQ.ptr _ _ | exact VQ.slice _ _ _ | exact VQ.func (by simp [zAW,zAV,zAZ]) (by simp [zAW,zAV,zAZ]) | exact VQ.agg (by simp [zAW,zAV,zAZ]) | exact VQ.tuple (by simp [zAW,zAV,zAZ])) ?_
      refine Dr.read (by first | rfl | kernel_rfl) (by rfl) (by assumption) (fun M hM => by simp only [zAY,zAU,zAT,sp_n,Nat.reduceLT,ne_eq,Nat.reduceEqDiff,zNf,fx,hn,ae_asl_lo,hF4 M hM] <;> rfl) (by rfl) (by first | exact VQ.int _ _ | exact VQ.bool _ | exact VQ.ptr _ _ | exact VQ.slice _ _ _ | exact VQ.func (by simp [zAW,zAV,zAZ]) (by simp [zAW,zAV,zAZ]) | exact VQ.agg (by simp [zAW,zAV,zAZ]) | exact VQ.tuple (by simp [zAW,zAV,zAZ])) ?_
      refine Dr.read (by first | rfl | kernel_rfl) (by rfl) (by assumption) (fun M hM => by simp only [zAY,zAU,zAT,sp_n,Nat.reduceLT,ne_eq,Nat.reduceEqDiff,zNf,fx,hn,bd24,zBY] <;> rfl) (by rfl) (by first | exact VQ.int _ _ | exact VQ.bool _ | exact VQ.ptr _ _ | exact VQ.slice _ _ _ | exact VQ.func (by simp [zAW,zAV,zAZ]) (by simp [zAW,zAV,zAZ]) | exact VQ.agg (by simp [zAW,zAZ]) | exact VQ.tuple (by simp [zAW,zAV,zAZ])) ?_
      refine Dr.call (by kernel_rfl) (by rfl) (by assumption) (by rfl) (zBU (by rfl) ⟨by rfl,by rfl⟩ (by rfl) (xs := [.agg #[.int .i64 (m : Int),.slice (some ⟨bw,ow,none⟩) x.st.length (x.st.length + L),.slice (some ⟨bw,ow + x.st.length,none⟩) L L]]) (by simp only [zAY,zAU,sp_n,Nat.reduceLT,List.map_cons,List.map_nil,List.nil_append,List.append_nil,hn]) (Con.mono hlr fun v A1 h => (by obtain ⟨a',p',h1,_,_,h2⟩ := h; exact (⟨a',p',h1,h2⟩ : smlS (m : Int) Y 83 _ (bump G 16) v A1)))) ?_
      intro w C1 hT1
      obtain ⟨a',p',hred,hxc,xa,xc,xr,rfl,hac,i1,i2,y1,y2⟩ := (hT1 : SmlQ (m : Int) Y (bump G 16) w C1)
      have hC1 : Nx G.next G C1 := hbk.trans (hxc.le hbk.next)
      have F1 : F C1 := hF _ (hC1.keep _ (by omega)) fun b _ h => hC1.keep b h
      have nbk : (bump G 16).next = G.next + 16 := zAH _ _
      obtain ⟨D,q1,hDn,hDw,hoff,g0,g1,g2⟩ := res_put ((hCG.keep _ hpRC).trans lC) (show pR < G.next by have := hCG.next; omega) hC1 (v0 := .int .i64 (m : Int)) (v1 := .slice xa a' xc) (v2 := .slice xr p' p') rfl
      have FD : F D := hF D ((hoff _ (by omega)).trans (hC1.keep _ (by omega))) fun b hb h => (hoff _ (by have := hCG.next; omega)).trans (hC1.keep b h)
      refine Dr.eff (by rfl) (by rfl) (pd1 := []) (pd2 := []) (by kernel_rfl) (by kernel_rfl) (ms0 := []) (A0 := C1) rfl (fun _ h => by cases h) F1 (by rfl) (v := undef) (A1 := D) (zBP rfl (fx_ok (by rfl) (by simp only [zAY,zAU,zAT,sp_n,Nat.reduceLT,ne_eq,Nat.reduceEqDiff,zNf,fx,str,zAR,Nat.zero_add,Nat.reduceAdd,tk24,hn,s4,q1,List.size_toArray,List.length_cons,List.length_nil,Nat.beq_refl]))) ?_
      refine Dr.read (by first | rfl | kernel_rfl) (by rfl) (by assumption) (fun M hM => by simp only [zAS,zAO,fx] <;> rfl) (by rfl) (by first | exact VQ.int _ _ | exact VQ.bool _ | exact VQ.ptr _ _ | exact VQ.slice _ _ _ | exact VQ.func (by simp [zAW,zAV,zAZ]) (by simp [zAW,zAV,zAZ]) | exact VQ.agg (by simp [zAW,zAV,zAZ]) | exact VQ.tuple (by simp [zAW,zAV,zAZ])) ?_
      refine Dr.nil (by rfl) (fun M hM => by cases hM) FD ⟨D,by rfl,?_⟩
      (repeat (first | refine Rn.seq hc ?_ | refine Rn.skip hc ?_ | refine Rn.block hc ?_ | refine Rn.inBlock hc ?_ | refine Rn.scope hc ?_ | refine Rn.inScope hc ?_))
      have hext : ∀ b,(bump G 16).next ≤ b → Canon.look C1.objs b = none ∨ Canon.look D.objs b = Canon.look C1.objs b := fun b hb => .inr (hoff b (by have := hCG.next; omega))
      have hle : A.next ≤ (bump G 16).next := hAk.next
      refine Rn.ret (zBR rfl (v := .agg #[.int .i64 (m : Int),.slice xa a' xc,.slice xr p' p']) ?_ ?_)
      · simp only [zAT,zAO,ne_eq,Nat.reduceEqDiff,zNf,ld,zAR,cls,Nat.zero_add,Nat.reduceAdd,tk24,s4,g0,g1,g2]
      · simp only [zAU,sp_n,zAO,Nat.reduceLT,hn]
        exact ⟨⟨by have := hAG.next; have := hC1.next; omega,hDw,fun b hb => (hoff b (by omega)).trans ((hC1.keep _ (by have := hAG.next; omega)).trans (hAG.keep b hb))⟩,.inr ⟨a',p',xa,xc,xr,hred,hred.low hPerY,Nat.le_trans (hred.minP _ _ hPerY) (by omega),rfl,hac,(i1.ext hext (Nat.le_of_eq hDn.symm)).mono hle (Nat.le_refl _),(i2.ext hext (Nat.le_of_eq hDn.symm)).mono hle (Nat.le_refl _),(y1.ext hext).mono hle,(y2.ext hext).mono hle⟩⟩
end Go.Proofs.Ytdaljohmfnfgiaa
namespace Go.Proofs.Ytdaljohmfnfgiaa
open Go Go.RowKit Go.Proofs.Ytdaljohmfnfgiaa.Canon
set_option maxRecDepth 20000
theorem tldR_tp {A D : AHeap} {m : Int} {s : Nat → Int} (h : TP 0 m s 0 [] [] 11) (hx : Nx A.next A D) : TldR A 0 m s (.tuple #[.agg #[.int .i64 0,.slice none 0 0,.slice none 0 0],.int .i64 11]) D :=
  ⟨hx,0,[],[],11,none,0,none,0,h,rfl,ints_nil' _ _ _ _,ints_nil' _ _ _ _⟩
theorem scan_ref {A : AHeap} (hw : WF A) {x : Las} (hox : x.ok A) (hcap : 0 < x.ro.length → Sl A x.ra 0) (hrc : x.ro.length ≤ x.rc) {sp : Int} :
    Con Try.prog 48 [x.v,.int .i64 sp] A (TldR A (erS x sp) x.m (scn x.m x.s sp.toNat)) := by
  refine zAJ hc Try.func48 rfl (Nat.le_of_ble_eq_true rfl) ?_
  obtain ⟨A1,e1,hx1,hn1,b0,b1,b2⟩ := box3 hw (.int .i64 x.m) (.slice x.sa x.st.length x.sc) (.slice x.ra x.ro.length x.rc) 24
  have hxr : Nx A1.next A1 (A1.push (.cells #[.int .i64 0,.slice none 0 0,.slice none 0 0] 24)) := (Nx.refl hx1.wf _).push (Nat.le_refl _) _
  have lr := zAM A1 (.cells #[.int .i64 0,.slice none 0 0,.slice none 0 0] 24)
  have hnr : (A1.push (.cells #[.int .i64 0,.slice none 0 0,.slice none 0 0] 24)).next = A1.next + 1 := rfl
  generalize er : A1.push (.cells #[.int .i64 0,.slice none 0 0,.slice none 0 0] 24) = Ar at hxr lr hnr
  have b0 := (hxr.cl (show A.next < A1.next by omega) 0).trans b0
  have b1 := (hxr.cl (show A.next < A1.next by omega) 1).trans b1
  have b2 := (hxr.cl (show A.next < A1.next by omega) 2).trans b2
  have hx0r : Nx A.next A Ar := hx1.trans (hxr.le hx1.next)
  obtain ⟨o1,o2,o3,o4⟩ := hox.nx hx0r
  rw [s_in2]
  unfold Las.v
  (repeat (first | refine Rn.seq hc ?_ | refine Rn.skip hc ?_ | refine Rn.block hc ?_ | refine Rn.inBlock hc ?_ | refine Rn.scope hc ?_ | refine Rn.inScope hc ?_))
  refine Rn.reg hc rfl ?_
  simp only [zAY,zAS,zAU,zAT,Nat.reduceLT,ne_eq,Nat.reduceEqDiff,zNf,gd,zAX,rops,fx,zOi,zEl,Value.cells,show Try.f48.ntmps = 36 from rfl,e1,ze24,er]
  (repeat (first | refine Rn.seq hc ?_ | refine Rn.skip hc ?_ | refine Rn.block hc ?_ | refine Rn.inBlock hc ?_ | refine Rn.scope hc ?_ | refine Rn.inScope hc ?_))
  refine Rn.region hc fun K hK => ?_
  refine Wo.run hc 1 rfl rfl rfl ?_
  simp (maxSteps := 2000000) only [List.drop_zero,List.take_succ_cons,List.take_zero,zAY,zAU,zAT,sp_n,Nat.reduceLT,ne_eq,Nat.reduceEqDiff,not_false_eq_true,gd,zAX,rops,fx,ld,zAR,cls,Nat.zero_add,Option.some.injEq,exists_eq_left',Nat.reduceAdd,tk24,b0,b1,b2]
  refine Wo.call hc (by rfl) (by rfl) ⟨by rfl,by rfl⟩ (xs := [.agg #[.int .i64 x.m,.slice x.sa x.st.length x.sc,.slice x.ra x.ro.length x.rc]]) (by rfl) (by rfl) (by rfl) (Con.mono (check_ref hx0r.wf o1 o2 o3 o4) ?_)
  rintro w A4 ⟨rfl,hx4⟩
  rw [show errL x.m x.st x.ro = x.err from rfl]
  refine Wo.run hc 1 rfl rfl rfl ?_
  simp (maxSteps := 2000000) only [List.drop_zero,List.drop_succ_cons,List.take_succ_cons,List.take_zero,zAY,zAU,sp_n,Nat.reduceLT,gd,zAX,rops,fx,Option.some.injEq,exists_eq_left',Nat.reduceAdd]
  refine Wo.done hc rfl (hK _ _ ?_)
  clear hK
  (repeat (first | refine Rn.seq hc ?_ | refine Rn.skip hc ?_ | refine Rn.block hc ?_ | refine Rn.inBlock hc ?_ | refine Rn.scope hc ?_ | refine Rn.inScope hc ?_))
  have hx04 : Nx A.next A A4 := hx0r.trans (hx4.le hx0r.next)
  have n4 := hx4.next
  have b0 := (hx4.cl (show A.next < Ar.next by omega) 0).trans b0
  have b1 := (hx4.cl (show A.next < Ar.next by omega) 1).trans b1
  have b2 := (hx4.cl (show A.next < Ar.next by omega) 2).trans b2
  have l4 : Canon.look A4.objs A1.next = _ := (hx4.keep _ (by omega)).trans lr
  unfold erS
  by_cases he : x.err = 0
  · have hd : (!decide (x.err = 0)) = false := by rw [decide_eq_true he]; rfl
    obtain ⟨m1,m2,m3⟩ := err_len he
    obtain ⟨mx,lx⟩ := err_lim he
    rw [if_pos he]
    refine Rn.reg hc rfl ?_
    simp only [zAY,zAS,zAU,sp_n,Nat.reduceLT,gd,zAX,rops,fx,zAD,zOi,zEl,hd]
    (repeat (first | refine Rn.seq hc ?_ | refine Rn.skip hc ?_ | refine Rn.block hc ?_ | refine Rn.inBlock hc ?_ | refine Rn.scope hc ?_ | refine Rn.inScope hc ?_))
    refine Rn.zAL hc rfl ?_
    simp only [zAY,zAU,sp_n,Nat.reduceLT,Value.bool.injEq,zEl]
    (repeat (first | refine Rn.seq hc ?_ | refine Rn.skip hc ?_ | refine Rn.block hc ?_ | refine Rn.inBlock hc ?_ | refine Rn.scope hc ?_ | refine Rn.inScope hc ?_))
    by_cases hbad : sp < 1 ∨ 120 < sp
    · obtain ⟨D,q1,g0,g1,g2,hxD⟩ := err_fin hx04 (by omega) (by omega) l4
      rw [if_pos hbad]
      rcases bad2s hbad with h1 | ⟨h1,h2⟩
      · refine Rn.reg hc rfl ?_
        simp only [zAY,zAS,zAU,zAT,sp_n,Nat.reduceLT,ne_eq,Nat.reduceEqDiff,zNf,gd,nth,zAX,zAQ,beqB,rops,fx,pck,zAK,zOi,zEl,h1]
        (repeat (first | refine Rn.seq hc ?_ | refine Rn.skip hc ?_ | refine Rn.block hc ?_ | refine Rn.inBlock hc ?_ | refine Rn.scope hc ?_ | refine Rn.inScope hc ?_))
        refine Rn.zAL hc rfl ?_
        simp only [zAY,zAU,sp_n,Nat.reduceLT,Value.bool.injEq,zEl]
        (repeat (first | refine Rn.seq hc ?_ | refine Rn.skip hc ?_ | refine Rn.block hc ?_ | refine Rn.inBlock hc ?_ | refine Rn.scope hc ?_ | refine Rn.inScope hc ?_))
        refine Rn.reg hc rfl ?_
        simp only [zAY,zAS,zAU,zAT,sp_n,zAO,Nat.reduceLT,ne_eq,Nat.reduceEqDiff,zNf,gd,zAX,rops,fx,str,zAR,Nat.zero_add,zOi,zEl,Nat.reduceAdd,tk24,bd24_z,q1,List.size_toArray,List.length_cons,List.length_nil,Nat.beq_refl]
        (repeat (first | refine Rn.seq hc ?_ | refine Rn.skip hc ?_ | refine Rn.block hc ?_ | refine Rn.inBlock hc ?_ | refine Rn.scope hc ?_ | refine Rn.inScope hc ?_))
        refine Rn.ret (zBR rfl (v := .agg #[.int .i64 0,.slice none 0 0,.slice none 0 0]) ?_ ?_)
        · simp only [zAU,zAT,sp_n,Nat.reduceLT,ne_eq,Nat.reduceEqDiff,zNf,ld,zAR,cls,Nat.zero_add,Nat.reduceAdd,tk24,g0,g1,g2]
        · simp only [zAU,sp_n,Nat.reduceLT]
          exact tldR_err (by omega) hxD
      · refine Rn.reg hc rfl ?_
        simp only [zAY,zAS,zAU,zAT,sp_n,Nat.reduceLT,ne_eq,Nat.reduceEqDiff,zNf,gd,nth,zAX,zAQ,beqB,rops,fx,pck,zAK,zBX,zOi,zEl,h1,h2]
        (repeat (first | refine Rn.seq hc ?_ | refine Rn.skip hc ?_ | refine Rn.block hc ?_ | refine Rn.inBlock hc ?_ | refine Rn.scope hc ?_ | refine Rn.inScope hc ?_))
        refine Rn.zAL hc rfl ?_
        simp only [zAY,zAU,sp_n,Nat.reduceLT,Value.bool.injEq,zEl]
        (repeat (first | refine Rn.seq hc ?_ | refine Rn.skip hc ?_ | refine Rn.block hc ?_ | refine Rn.inBlock hc ?_ | refine Rn.scope hc ?_ | refine Rn.inScope hc ?_))
        refine Rn.reg hc rfl ?_
        simp only [zAY,zAS,zAU,zAT,sp_n,zAO,Nat.reduceLT,ne_eq,Nat.reduceEqDiff,zNf,gd,zAX,rops,fx,str,zAR,Nat.zero_add,zOi,zEl,Nat.reduceAdd,tk24,bd24_z,q1,List.size_toArray,List.length_cons,List.length_nil,Nat.beq_refl]
        (repeat (first | refine Rn.seq hc ?_ | refine Rn.skip hc ?_ | refine Rn.block hc ?_ | refine Rn.inBlock hc ?_ | refine Rn.scope hc ?_ | refine Rn.inScope hc ?_))
        refine Rn.ret (zBR rfl (v := .agg #[.int .i64 0,.slice none 0 0,.slice none 0 0]) ?_ ?_)
        · simp only [zAU,zAT,sp_n,Nat.reduceLT,ne_eq,Nat.reduceEqDiff,zNf,ld,zAR,cls,Nat.zero_add,Nat.reduceAdd,tk24,g0,g1,g2]
        · simp only [zAU,sp_n,Nat.reduceLT]
          exact tldR_err (by omega) hxD
    · have h1 : decide (sp < 1) = false := decide_eq_false (by omega)
      have h2 : decide (120 < sp) = false := decide_eq_false (by omega)
      rw [if_neg hbad]
      obtain ⟨step,rfl⟩ : ∃ k : Nat,sp = (k : Int) := ⟨sp.toNat,by omega⟩
      rw [Int.toNat_natCast]
      refine Rn.reg hc rfl ?_
      simp only [zAY,zAS,zAU,zAT,sp_n,Nat.reduceLT,ne_eq,Nat.reduceEqDiff,zNf,gd,nth,zAX,zAQ,beqB,rops,fx,pck,zAK,zBX,zOi,zEl,h1,h2]
      (repeat (first | refine Rn.seq hc ?_ | refine Rn.skip hc ?_ | refine Rn.block hc ?_ | refine Rn.inBlock hc ?_ | refine Rn.scope hc ?_ | refine Rn.inScope hc ?_))
      refine Rn.zAL hc rfl ?_
      simp only [zAY,zAU,sp_n,Nat.reduceLT,Value.bool.injEq,zEl]
      (repeat (first | refine Rn.seq hc ?_ | refine Rn.skip hc ?_ | refine Rn.block hc ?_ | refine Rn.inBlock hc ?_ | refine Rn.scope hc ?_ | refine Rn.inScope hc ?_))
      obtain ⟨mn,hmn⟩ : ∃ k : Nat,x.m = (k : Int) := ⟨x.m.toNat,by omega⟩
      obtain ⟨o1,o2,o3,o4⟩ := hox.nx hx04
      refine Rn.region hc fun K hK => ?_
      refine Wo.run hc 1 rfl rfl rfl ?_
      simp (maxSteps := 2000000) only [List.drop_zero,List.take_succ_cons,List.take_zero,zAY,zAU,zAT,sp_n,Nat.reduceLT,ne_eq,Nat.reduceEqDiff,not_false_eq_true,gd,zAX,rops,fx,ld,zAR,cls,Nat.zero_add,Option.some.injEq,exists_eq_left',Nat.reduceAdd,tk24,b0,b1,b2]
      refine Wo.call hc (by rfl) (by rfl) ⟨by rfl,by rfl⟩ (xs := [.agg #[.int .i64 x.m,.slice x.sa x.st.length x.sc,.slice x.ra x.ro.length x.rc]]) (by rfl) (by rfl) (by rfl) (Con.mono (small_ref hx04.wf o1 o2 (by omega) (by omega) m3 ((hcap m3).nx hw hx04) hrc) ?_)
      rintro w A5 ⟨a,p,hred,ha,hp,hx5,xa,xc,xr,rfl,hac,i1,i2,y1,y2⟩
      have hx05 : Nx A.next A A5 := hx04.trans (hx5.le hx04.next)
      have hatl : atL (redS x.s a) (redR x.s a p) = x.s := atL_redF hred.per
      have hp0 := hred.per.pos
      have hsc := scanned_ref hx5.wf (x := ⟨x.m,xa,xc,redS x.s a,xr,p,redR x.s a p⟩) ⟨i1.mono (Nat.zero_le _) (Nat.le_refl _),i2.mono (Nat.zero_le _) (Nat.le_refl _),by show (redS x.s a).length < _; rw [zAI]; omega,by show (redR x.s a p).length < _; rw [zAF]; omega⟩ (m := mn) hmn (by omega)
        (by
          intro n
          show 0 ≤ atL (redS x.s a) (redR x.s a p) n ∧ atL (redS x.s a) (redR x.s a p) n < _
          rw [hatl,← hmn]
          exact lx n) (by show (redS x.s a).length ≤ 1000; rw [zAI]; omega) (by show 1 ≤ (redR x.s a p).length ∧ (redR x.s a p).length ≤ 20000; rw [zAF]; omega)
        (by
          show Red (atL (redS x.s a) (redR x.s a p)) (redS x.s a).length (redR x.s a p).length
          rw [hatl,zAI,zAF]
          exact hred) (step := step) (by omega)
      unfold ScnQ at hsc
      simp only [Las.v,Las.s,zAI,zAF] at hsc
      have hatl2 : atL (redS (atL x.st x.ro) a) (redR (atL x.st x.ro) a p) = x.s := hatl
      simp only [hatl2] at hsc
      refine Wo.run hc 1 rfl rfl rfl ?_
      simp (maxSteps := 2000000) only [List.drop_zero,List.drop_succ_cons,List.take_succ_cons,List.take_zero,zAY,zAU,zAT,sp_n,Nat.reduceLT,ne_eq,Nat.reduceEqDiff,not_false_eq_true,gd,zAX,rops,fx,Option.some.injEq,exists_eq_left',Nat.reduceAdd]
      refine Wo.call hc (by rfl) (by rfl) ⟨by rfl,by rfl⟩ (xs := [.agg #[.int .i64 x.m,.slice xa a xc,.slice xr p p],.int .i64 (step : Int)]) (by rfl) (by rfl) (by rfl) (Con.mono (hsc) ?_)
      rintro w A6 ⟨hx6,hq⟩
      have hx46 : Nx A4.next A4 A6 := hx5.trans (hx6.le hx5.next)
      have hx06 : Nx A.next A A6 := hx04.trans (hx46.le hx04.next)
      have n6 := hx46.next
      have l6 : Canon.look A6.objs A1.next = _ := (hx46.keep _ (by omega)).trans l4
      rcases hq with ⟨rfl,⟨N,d,hper⟩,hlg⟩ | ⟨a',p',za,zc,zr,hred',-,hp4,rfl,hac',j1,j2,z1,z2⟩
      · obtain ⟨A7,p7,hx7,hn7,d0,d1,d2⟩ := put24 hx6.wf (v0 := .int .i64 0) (v1 := .slice none 0 0) (v2 := .slice none 0 0) rfl
        refine Wo.run hc 6 rfl rfl rfl ?_
        simp (maxSteps := 2000000) only [List.drop_zero,List.drop_succ_cons,List.take_succ_cons,List.take_zero,zAY,zAU,zAT,sp_n,zAO,Nat.reduceLT,ne_eq,Nat.reduceEqDiff,not_false_eq_true,gd,zAX,rops,fx,str,ext,zAR,List.getElem?_toArray,List.getElem?_cons_zero,List.getElem?_cons_succ,Nat.zero_add,Option.some.injEq,exists_eq_left',Value.cells,Nat.reduceAdd,tk24,ext,ze24,p7,List.size_toArray,List.length_cons,List.length_nil,Nat.beq_refl]
        refine Wo.done hc rfl (hK _ _ ?_)
        clear hK
        (repeat (first | refine Rn.seq hc ?_ | refine Rn.skip hc ?_ | refine Rn.block hc ?_ | refine Rn.inBlock hc ?_ | refine Rn.scope hc ?_ | refine Rn.inScope hc ?_))
        have hx07 : Nx A.next A A7 := hx06.trans (hx7.le hx06.next)
        obtain ⟨D,q1,g0,g1,g2,hxD⟩ := err_fin hx07 (by omega) (by omega) ((hx7.keep _ (by omega)).trans l6)
        refine Rn.reg hc rfl ?_
        simp only [zAY,zAU,sp_n,Nat.reduceLT,gd,zAX,rops,fx,zOi,zEl,Bool.not_false,ae_not',Bool.not_false]
        (repeat (first | refine Rn.seq hc ?_ | refine Rn.skip hc ?_ | refine Rn.block hc ?_ | refine Rn.inBlock hc ?_ | refine Rn.scope hc ?_ | refine Rn.inScope hc ?_))
        refine Rn.zAL hc rfl ?_
        simp only [zAY,zAU,sp_n,Nat.reduceLT,Value.bool.injEq,zEl]
        (repeat (first | refine Rn.seq hc ?_ | refine Rn.skip hc ?_ | refine Rn.block hc ?_ | refine Rn.inBlock hc ?_ | refine Rn.scope hc ?_ | refine Rn.inScope hc ?_))
        refine Rn.reg hc rfl ?_
        simp only [zAY,zAS,zAU,zAT,sp_n,zAO,Nat.reduceLT,ne_eq,Nat.reduceEqDiff,zNf,gd,zAX,rops,fx,str,zAR,Nat.zero_add,zOi,zEl,Nat.reduceAdd,tk24,bd24_z,q1,List.size_toArray,List.length_cons,List.length_nil,Nat.beq_refl]
        (repeat (first | refine Rn.seq hc ?_ | refine Rn.skip hc ?_ | refine Rn.block hc ?_ | refine Rn.inBlock hc ?_ | refine Rn.scope hc ?_ | refine Rn.inScope hc ?_))
        refine Rn.ret (zBR rfl (v := .agg #[.int .i64 0,.slice none 0 0,.slice none 0 0]) ?_ ?_)
        · simp only [zAU,zAT,sp_n,Nat.reduceLT,ne_eq,Nat.reduceEqDiff,zNf,ld,zAR,cls,Nat.zero_add,Nat.reduceAdd,tk24,g0,g1,g2]
        · simp only [zAU,sp_n,Nat.reduceLT]
          exact tldR_tp (tp_long hper hlg) hxD
      · obtain ⟨A7,p7,hx7,hn7,d0,d1,d2⟩ := put24 hx6.wf (v0 := .int .i64 x.m) (v1 := .slice za a' zc) (v2 := .slice zr p' p') rfl
        refine Wo.run hc 6 rfl rfl rfl ?_
        simp (maxSteps := 2000000) only [List.drop_zero,List.drop_succ_cons,List.take_succ_cons,List.take_zero,zAY,zAU,zAT,sp_n,zAO,Nat.reduceLT,ne_eq,Nat.reduceEqDiff,not_false_eq_true,gd,zAX,rops,fx,str,ext,zAR,List.getElem?_toArray,List.getElem?_cons_zero,List.getElem?_cons_succ,Nat.zero_add,Option.some.injEq,exists_eq_left',Value.cells,Nat.reduceAdd,tk24,ext,ze24,p7,List.size_toArray,List.length_cons,List.length_nil,Nat.beq_refl]
        refine Wo.done hc rfl (hK _ _ ?_)
        clear hK
        (repeat (first | refine Rn.seq hc ?_ | refine Rn.skip hc ?_ | refine Rn.block hc ?_ | refine Rn.inBlock hc ?_ | refine Rn.scope hc ?_ | refine Rn.inScope hc ?_))
        have hx07 : Nx A.next A A7 := hx06.trans (hx7.le hx06.next)
        refine Rn.reg hc rfl ?_
        simp only [zAY,zAU,sp_n,Nat.reduceLT,gd,zAX,rops,fx,zOi,zEl,Bool.not_true,ae_not',Bool.not_true]
        (repeat (first | refine Rn.seq hc ?_ | refine Rn.skip hc ?_ | refine Rn.block hc ?_ | refine Rn.inBlock hc ?_ | refine Rn.scope hc ?_ | refine Rn.inScope hc ?_))
        refine Rn.zAL hc rfl ?_
        simp only [zAY,zAU,sp_n,Nat.reduceLT,Value.bool.injEq,zEl]
        (repeat (first | refine Rn.seq hc ?_ | refine Rn.skip hc ?_ | refine Rn.block hc ?_ | refine Rn.inBlock hc ?_ | refine Rn.scope hc ?_ | refine Rn.inScope hc ?_))
        have hatl' : atL (redS (scn x.m x.s step) a') (redR (scn x.m x.s step) a' p') = scn x.m x.s step := atL_redF hred'.per
        have hlow := hred'.low (s := scn x.m x.s step) (N := a') (d := p') hred'.per
        have ha4 : a' ≤ 4000000 := by
          have h9 := hred'.low (N := x.st.length) (d := mn * lcmN step x.ro.length) (by
            have hf := zDZ (show 0 < step by omega) m3
            rw [hmn]
            exact scn_per_m (show 0 < mn by omega) (show 0 < step by omega) hf.1 (Nat.dvd_of_mod_eq_zero hf.2.1) fun n hn => by
              obtain ⟨q,hq⟩ := Nat.dvd_of_mod_eq_zero hf.2.2.1
              rw [hq,Nat.mul_comm]
              exact (atL_per (st := x.st) m3).times q n hn)
          omega
        have hlr := result_ref hx7.wf (m := x.m) (sc := zc) (rc := p') ((j1.nx hx7 (Nat.le_refl _)).mono (Nat.zero_le _) hx7.next) ((j2.nx hx7 (Nat.le_refl _)).mono (Nat.zero_le _) hx7.next) (by rw [zAI]; exact ha4) (by rw [zAF]; omega) (by rw [zAF]; exact hred'.per.pos) ((z2.nx hx6.wf hx7).mono (Nat.zero_le _)) (by rw [zAF]; exact Nat.le_refl _)
        rw [hatl'] at hlr
        simp only [zAI,zAF] at hlr
        refine Rn.region hc fun K hK => ?_
        refine Wo.run hc 1 rfl rfl rfl ?_
        simp (maxSteps := 2000000) only [List.drop_zero,List.take_succ_cons,List.take_zero,zAY,zAU,zAT,sp_n,Nat.reduceLT,ne_eq,Nat.reduceEqDiff,not_false_eq_true,gd,zAX,rops,fx,ld,zAR,cls,Nat.zero_add,Option.some.injEq,exists_eq_left',Nat.reduceAdd,tk24,d0,d1,d2]
        refine Wo.call hc (by rfl) (by rfl) ⟨by rfl,by rfl⟩ (xs := [.agg #[.int .i64 x.m,.slice za a' zc,.slice zr p' p']]) (by rfl) (by rfl) (by rfl) (Con.mono (hlr) ?_)
        rintro w C3 ⟨a'',p'',hred'',_,_,hq⟩
        obtain ⟨mm,n1,n2,ee,p1,c1,p2,c2,rfl,D',q1,g0,g1,g2,hoff,hT⟩ := TldR.fin (b := A1.next) hx07 (by omega) (by omega) ((hx7.keep _ (by omega)).trans l6) (tldR_q (m := x.m) hred'' hq)
        refine Wo.run hc 4 rfl rfl rfl ?_
        simp (maxSteps := 2000000) only [List.drop_zero,List.drop_succ_cons,List.take_succ_cons,List.take_zero,zAY,zAU,zAT,sp_n,zAO,Nat.reduceLT,ne_eq,Nat.reduceEqDiff,not_false_eq_true,gd,zAX,rops,fx,str,ext,zAR,List.getElem?_toArray,List.getElem?_cons_zero,List.getElem?_cons_succ,Nat.zero_add,Option.some.injEq,exists_eq_left',Nat.reduceAdd,tk24,ext,q1,List.size_toArray,List.length_cons,List.length_nil,Nat.beq_refl]
        refine Wo.done hc rfl (hK _ _ ?_)
        clear hK
        (repeat (first | refine Rn.seq hc ?_ | refine Rn.skip hc ?_ | refine Rn.block hc ?_ | refine Rn.inBlock hc ?_ | refine Rn.scope hc ?_ | refine Rn.inScope hc ?_))
        refine Rn.ret (zBR rfl (v := .agg #[.int .i64 mm,.slice p1 n1 c1,.slice p2 n2 c2]) ?_ ?_)
        · simp only [zAU,zAT,sp_n,Nat.reduceLT,ne_eq,Nat.reduceEqDiff,zNf,ld,zAR,cls,Nat.zero_add,Nat.reduceAdd,tk24,g0,g1,g2]
        · simp only [zAU,sp_n,Nat.reduceLT]
          exact hT
  · have hd : (!decide (x.err = 0)) = true := by rw [decide_eq_false he]; rfl
    obtain ⟨D,q1,g0,g1,g2,hxD⟩ := err_fin hx04 (by omega) (by omega) l4
    rw [if_neg he]
    refine Rn.reg hc rfl ?_
    simp only [zAY,zAS,zAU,sp_n,Nat.reduceLT,gd,zAX,rops,fx,zAD,zOi,zEl,hd]
    (repeat (first | refine Rn.seq hc ?_ | refine Rn.skip hc ?_ | refine Rn.block hc ?_ | refine Rn.inBlock hc ?_ | refine Rn.scope hc ?_ | refine Rn.inScope hc ?_))
    refine Rn.zAL hc rfl ?_
    simp only [zAY,zAU,sp_n,Nat.reduceLT,Value.bool.injEq,zEl]
    (repeat (first | refine Rn.seq hc ?_ | refine Rn.skip hc ?_ | refine Rn.block hc ?_ | refine Rn.inBlock hc ?_ | refine Rn.scope hc ?_ | refine Rn.inScope hc ?_))
    refine Rn.reg hc rfl ?_
    simp only [zAY,zAU,zAT,sp_n,zAO,Nat.reduceLT,ne_eq,Nat.reduceEqDiff,zNf,gd,zAX,rops,fx,str,zAR,Nat.zero_add,zOi,zEl,Nat.reduceAdd,tk24,bd24_z,q1,List.size_toArray,List.length_cons,List.length_nil,Nat.beq_refl]
    (repeat (first | refine Rn.seq hc ?_ | refine Rn.skip hc ?_ | refine Rn.block hc ?_ | refine Rn.inBlock hc ?_ | refine Rn.scope hc ?_ | refine Rn.inScope hc ?_))
    refine Rn.ret (zBR rfl (v := .agg #[.int .i64 0,.slice none 0 0,.slice none 0 0]) ?_ ?_)
    · simp only [zAU,zAT,sp_n,Nat.reduceLT,ne_eq,Nat.reduceEqDiff,zNf,ld,zAR,cls,Nat.zero_add,Nat.reduceAdd,tk24,g0,g1,g2]
    · simp only [zAU,sp_n,Nat.reduceLT]
      exact tldR_err he hxD
end Go.Proofs.Ytdaljohmfnfgiaa
namespace Go.Proofs.Ytdaljohmfnfgiaa
open Go Go.RowKit Go.Proofs.Ytdaljohmfnfgiaa.Canon
set_option maxRecDepth 20000
end Go.Proofs.Ytdaljohmfnfgiaa
namespace Go.Proofs.Ytdaljohmfnfgiaa
open Go Go.RowKit Go.Proofs.Ytdaljohmfnfgiaa.Canon
set_option maxRecDepth 20000
structure Sp (lo hi : Nat) (D : AHeap) (b : Nat) (y : Las) : Prop where
  c0 : cl D b 0 = some (.int .i64 y.m)
  c1 : cl D b 1 = some (.slice y.sa y.st.length y.sc)
  c2 : cl D b 2 = some (.slice y.ra y.ro.length y.rc)
  lt : b < D.next
  hb : hi ≤ b
  ln : y.ro.length < 4611686018427387904
  w1 : Wrt D y.sa lo hi y.st.length
  w2 : Wrt D y.ra lo hi y.ro.length
theorem Pr.sp {lo hi : Nat} {D : AHeap} {b b' : Nat} {y y' : Las} (h : Pr lo hi D b b' y y') : Sp lo hi D b y := ⟨h.c0,h.c1,h.c2,h.lt,h.hb,h.ok.2.2.2,h.w1,h.w2⟩
theorem Sp.off {lo hi lo' hi' : Nat} {D E : AHeap} {b : Nat} {y : Las} (h : Sp lo hi D b y) (k : Off lo' hi' D E) (hl : hi' ≤ lo) (hlh : lo ≤ hi) : Sp lo hi E b y :=
  ⟨(zAB (k.keep _ h.lt (.inr (by have := h.hb; omega)))).trans h.c0,(zAB (k.keep _ h.lt (.inr (by have := h.hb; omega)))).trans h.c1,(zAB (k.keep _ h.lt (.inr (by have := h.hb; omega)))).trans h.c2,Nat.lt_of_lt_of_le h.lt k.next,h.hb,h.ln,
    h.w1.stay fun b' h1 h2 => k.keep _ (by have := h.hb; have := h.lt; omega) (.inr (by omega)),h.w2.stay fun b' h1 h2 => k.keep _ (by have := h.hb; have := h.lt; omega) (.inr (by omega))⟩
theorem nx_off {C D E : AHeap} {lo hi : Nat} (h : Nx C.next C D) (k : Off lo hi D E) (hl : C.next ≤ lo) : Nx C.next C E :=
  ⟨Nat.le_trans h.next k.next,k.wf,fun b hb => (k.keep b (Nat.lt_of_lt_of_le hb h.next) (.inl (by omega))).trans (h.keep b hb)⟩
theorem Szs.off {A B : AHeap} {lo hi : Nat} (h : Szs lo hi A B) : Off lo hi A B := ⟨Nat.le_of_eq h.next.symm,h.wf,fun b _ hb => h.keep b hb⟩
end Go.Proofs.Ytdaljohmfnfgiaa
namespace Go.Proofs.Ytdaljohmfnfgiaa
open Go Go.RowKit Go.Proofs.Ytdaljohmfnfgiaa.Canon
set_option maxRecDepth 20000
theorem sums_own {A B : AHeap} (hB : Nx A.next A B) {bX bY : Nat} {x y : Las} (hX : Has B bX x) (hY : Has B bY y) {s : Slots} {by0 sp0 : Int} (hn : s.n = 143) (s2 : sget s 2 = .int .i64 by0) (s3 : sget s 3 = .int .i64 sp0) (s4 : sget s 4 = .pointer (some ⟨bX,0,none⟩)) (s5 : sget s 5 = .pointer (some ⟨bY,0,none⟩)) {Q : Post}
    (hk : ∀ s C bx by' x' y',Nx B.next B C → Has C bx x' → Has C by' y' → Tw x' x → Tw y' y → Sl C x'.sa 0 → Sl C y'.sa 0 → s.n = 143 → sget s 2 = .int .i64 by0 → sget s 3 = .int .i64 sp0 → sget s 4 = .pointer (some ⟨bX,0,none⟩) → sget s 5 = .pointer (some ⟨bY,0,none⟩) → sget s 9 = .pointer (some ⟨bx,0,none⟩) → sget s 10 = .pointer (some ⟨by',0,none⟩) → Rn Try.prog 6 none [.code (restN 3 (Try.f6.body.getD .skip))] s [] C Q) :
    Rn Try.prog 6 none [.code (restN 2 (Try.f6.body.getD .skip))] s [] B Q := by
  refine Rn.seq hc ?_
  obtain ⟨F,hFb,hF⟩ : ∃ F : AHeap → Prop,(∀ M,F M → ∀ b,b < B.next → ∀ o,cl M b o = cl B b o) ∧ (∀ M,Nx B.next B M → F M) := ⟨fun M => Nx B.next B M,fun M h b hb o => h.cl hb o,fun _ h => h⟩
  have G0 := fun M hM => (hFb M hM _ hX.lt 0).trans hX.c0
  have G1 := fun M hM => (hFb M hM _ hX.lt 1).trans hX.c1
  have G2 := fun M hM => (hFb M hM _ hX.lt 2).trans hX.c2
  have H0 := fun M hM => (hFb M hM _ hY.lt 0).trans hY.c0
  have H1 := fun M hM => (hFb M hM _ hY.lt 1).trans hY.c1
  have H2 := fun M hM => (hFb M hM _ hY.lt 2).trans hY.c2
  have hbk : Nx B.next B (bump B 8) := Nx.bump (Nx.refl hB.wf _) 8
  have FB := hF _ hbk
  have ls := hX.ls
  have lr := hX.lr
  have ls' := hY.ls
  have lr' := hY.lr
  refine Rn.drawnL hc hx ownS F (E := [1,3,5,4,6]) (n := 7) (k := 8) (by kernel_rfl) (by kernel_rfl) (by rfl) (by kernel_rfl) ?_
  refine DrL.read (by first | rfl | kernel_rfl) (by rfl) (by assumption) (fun M hM => by simp only [zAY,fx,ld,zAR,cls,Nat.zero_add,Nat.reduceAdd,tk24,s4,G0 M hM,G1 M hM,G2 M hM] <;> rfl) (by rfl) (by first | exact VQ.int _ _ | exact VQ.bool _ | exact VQ.ptr _ _ | exact VQ.slice _ _ _ | exact VQ.func (by simp [zAW,zAV,zAZ]) (by simp [zAW,zAV,zAZ]) | exact VQ.agg (by simp [zAW,zAZ]) | exact VQ.tuple (by simp [zAW,zAV,zAZ])) ?_
  obtain ⟨o1,o2,_,_⟩ := hX.ok.nx hbk
  refine DrL.call (by kernel_rfl) (by rfl) (by assumption) (by rfl) (zBU (by rfl) ⟨by rfl,by rfl⟩ (by rfl) (xs := [x.v]) (by simp only [zAY,zAU,Nat.reduceLT,List.map_cons,List.map_nil,List.nil_append,List.append_nil,hn,Las.v]) (own_S hbk.wf o1 o2 (by omega) (by omega))) ?_
  rintro v C1 ⟨k1,hv⟩
  obtain ⟨xa,xc,xr,xd,rfl,hc1,hc2,i1,i2,y1,y2⟩ := hv _ _ _ _ _ _ _ rfl o1 o2
  have hC1 : Nx B.next B C1 := hbk.trans (k1.le hbk.next)
  have F1 := hF _ hC1
  refine DrL.read (by first | rfl | kernel_rfl) (by rfl) (by assumption) (fun M hM => by simp only [zAY,zAT,ne_eq,Nat.reduceEqDiff,zNf,fx,ld,zAR,cls,Nat.zero_add,Nat.reduceAdd,tk24,s5,H0 M hM,H1 M hM,H2 M hM] <;> rfl) (by rfl) (by first | exact VQ.int _ _ | exact VQ.bool _ | exact VQ.ptr _ _ | exact VQ.slice _ _ _ | exact VQ.func (by simp [zAW,zAV,zAZ]) (by simp [zAW,zAV,zAZ]) | exact VQ.agg (by simp [zAW,zAZ]) | exact VQ.tuple (by simp [zAW,zAV,zAZ])) ?_
  obtain ⟨p1,p2,_,_⟩ := hY.ok.nx hC1
  refine DrL.call (by kernel_rfl) (by rfl) (by assumption) (by rfl) (zBU (by rfl) ⟨by rfl,by rfl⟩ (by rfl) (xs := [y.v]) (by simp only [zAY,zAU,sp_n,Nat.reduceLT,List.map_cons,List.map_nil,List.nil_append,List.append_nil,hn,Las.v]) (own_S hC1.wf p1 p2 (by omega) (by omega))) ?_
  rintro v C2 ⟨k2,hv⟩
  obtain ⟨ya,yc,yr,yd,rfl,hc3,hc4,i3,i4,y3,y4⟩ := hv _ _ _ _ _ _ _ rfl p1 p2
  have hC2 : Nx B.next B C2 := hC1.trans (k2.le hC1.next)
  have F2 := hF _ hC2
  have hn1 := k1.next
  rw [zAH] at hn1
  have hn2 := k2.next
  refine DrL.float (by rfl) (by rfl) (by rfl) fbal24 ?_
  refine DrL.float (by rfl) (by rfl) (by rfl) fbal24 ?_
  have hk12 : ∀ b,b < B.next + 8 → Canon.look C2.objs b = Canon.look B.objs b := fun b hb => by
    rw [k2.keep _ (by omega),k1.keep _ (by rw [zAH]; omega)]
    rfl
  have hnb5 : Canon.look C2.objs (B.next + 5) = none := by rw [hk12 _ (by omega)]; exact hB.wf.none (by omega)
  obtain ⟨C3,p3,w3,n3,l3,kp3⟩ := place_al k2.wf (b := B.next + 5) (by omega) hnb5 [.int .i64 0,.slice none 0 0,.slice none 0 0] 24
  have hC3 : Nx B.next B C3 := ⟨by omega,w3,fun b hb => by rw [kp3 _ (by omega),hk12 _ (by omega)]⟩
  have F3 := hF _ hC3
  have hnb4 : Canon.look C3.objs (B.next + 4) = none := by rw [kp3 _ (by omega),hk12 _ (by omega)]; exact hB.wf.none (by omega)
  obtain ⟨C4,p4,w4,n4,l4,kp4⟩ := place_al w3 (b := B.next + 4) (by omega) hnb4 [.int .i64 0,.slice none 0 0,.slice none 0 0] 24
  have hC4 : Nx B.next B C4 := ⟨by omega,w4,fun b hb => by rw [kp4 _ (by omega)]; exact hC3.keep _ hb⟩
  have F4 := hF _ hC4
  obtain ⟨C5,c5,q1,q2,q3,q4⟩ := sts_upd (l := [.int .i64 x.m,.slice xa x.st.length xc,.slice xr x.ro.length xd]) (o := 0) l4 rfl (by simp) rfl
  have n5 := q2.next
  have hC5 : Nx B.next B C5 := ⟨by omega,(q2.nx w4 (Nat.zero_le _)).wf,fun b hb => by rw [q2.off _ (by omega)]; exact hC4.keep _ hb⟩
  have F5 := hF _ hC5
  refine DrL.eff (by rfl) (by rfl) (pd1 := [(5,⟨[.int .i64 0,.slice none 0 0,.slice none 0 0],24,.ptr⟩),(4,⟨[.int .i64 0,.slice none 0 0,.slice none 0 0],24,.ptr⟩)]) (pd2 := []) (by kernel_rfl) (by kernel_rfl) (ms0 := [C2,C3]) (A0 := C4) (by simp only [zBS,p3,p4]) (fun M hM => by
      rcases List.mem_cons.1 hM with rfl | hM
      · exact F2
      · rw [List.mem_singleton] at hM; rw [hM]; exact F3) F4 (by rfl)
    (v := undef) (A1 := C5) (zBP rfl (fx_ok (by rfl) (by simp only [zAY,zAU,zAT,sp_n,Nat.reduceLT,ne_eq,Nat.reduceEqDiff,zNf,fx,str,zAR,Nat.zero_add,Nat.reduceAdd,tk24,hn,FK.val,q1,List.size_toArray,List.length_cons,List.length_nil,Nat.beq_refl]))) ?_
  have l5 : Canon.look C5.objs (B.next + 5) = _ := (q2.off _ (by omega)).trans ((kp4 _ (by omega)).trans l3)
  obtain ⟨C6,c6,r1,r2,r3,r4⟩ := sts_upd (l := [.int .i64 y.m,.slice ya y.st.length yc,.slice yr y.ro.length yd]) (o := 0) l5 rfl (by simp) rfl
  have hn6 := r2.next
  refine DrL.eff (by rfl) (by rfl) (pd1 := []) (pd2 := []) (by kernel_rfl) (by kernel_rfl) (ms0 := []) (A0 := C5) rfl (fun _ h => by cases h) F5 (by rfl)
    (v := undef) (A1 := C6) (zBP rfl (fx_ok (by rfl) (by simp only [zAY,zAU,zAT,sp_n,zAO,Nat.reduceLT,ne_eq,Nat.reduceEqDiff,zNf,fx,str,zAR,Nat.zero_add,Nat.reduceAdd,tk24,hn,FK.val,r1,List.size_toArray,List.length_cons,List.length_nil,Nat.beq_refl]))) ?_
  refine DrL.nil ⟨by rfl,C6,by rfl,?_⟩
  have hC6 : Nx B.next B C6 := ⟨by omega,(r2.nx hC5.wf (Nat.zero_le _)).wf,fun b hb => by rw [r2.off _ (by omega)]; exact hC5.keep _ hb⟩
  have hoff : ∀ b,b ≠ B.next + 4 → b ≠ B.next + 5 → Canon.look C6.objs b = Canon.look C2.objs b := fun b h4 h5 => by rw [r2.off _ h5,q2.off _ h4,kp4 _ h4,kp3 _ h5]
  have hext2 : ∀ b,(0 : Nat) ≤ b → Canon.look C2.objs b = none ∨ Canon.look C6.objs b = Canon.look C2.objs b := fun b _ => by
    by_cases h4 : b = B.next + 4
    · exact .inl (by rw [h4,hk12 _ (by omega)]; exact hB.wf.none (by omega))
    · by_cases h5 : b = B.next + 5
      · exact .inl (h5 ▸ hnb5)
      · exact .inr (hoff b h4 h5)
  have hext1 : ∀ b,(0 : Nat) ≤ b → Canon.look C1.objs b = none ∨ Canon.look C6.objs b = Canon.look C1.objs b := fun b hb => by
    by_cases hlt : b < C1.next
    · rcases hext2 b hb with h | h
      · rw [k2.keep _ hlt] at h; exact .inl h
      · exact .inr (h.trans (k2.keep _ hlt))
    · exact .inl (k1.wf.none (by omega))
  have g0 : cl C6 (B.next + 4) 0 = some (.int .i64 x.m) := by rw [zAB (r2.off _ (by omega)),q2.cl,q4]; rfl
  have g1 : cl C6 (B.next + 4) 1 = some (.slice xa x.st.length xc) := by rw [zAB (r2.off _ (by omega)),q2.cl,q4]; rfl
  have g2 : cl C6 (B.next + 4) 2 = some (.slice xr x.ro.length xd) := by rw [zAB (r2.off _ (by omega)),q2.cl,q4]; rfl
  have f0 : cl C6 (B.next + 5) 0 = some (.int .i64 y.m) := by rw [r2.cl,r4]; rfl
  have f1 : cl C6 (B.next + 5) 1 = some (.slice ya y.st.length yc) := by rw [r2.cl,r4]; rfl
  have f2 : cl C6 (B.next + 5) 2 = some (.slice yr y.ro.length yd) := by rw [r2.cl,r4]; rfl
  have j1 := y1.ext hext1
  have j2 := y2.ext hext1
  have j3 := y3.ext hext2
  have j4 := y4.ext hext2
  refine hk _ C6 (B.next + 4) (B.next + 5) ⟨x.m,xa,xc,x.st,xr,xd,x.ro⟩ ⟨y.m,ya,yc,y.st,yr,yd,y.ro⟩ hC6
    { c0 := g0,c1 := g1,c2 := g2,ok := ⟨i1.ext hext1 (by omega),i2.ext hext1 (by omega),show x.st.length < _ by omega,show x.ro.length < _ by omega⟩,lt := by omega,ls := ls,lr := lr,cs := hc1,cr := hc2,s1 := fun _ => j1,s2 := fun _ => j2 }
    { c0 := f0,c1 := f1,c2 := f2,ok := ⟨i3.ext hext2 (by omega),i4.ext hext2 (by omega),show y.st.length < _ by omega,show y.ro.length < _ by omega⟩,lt := by omega,ls := ls',lr := lr',cs := hc3,cr := hc4,s1 := fun _ => j3,s2 := fun _ => j4 }
    ⟨rfl,rfl,rfl⟩ ⟨rfl,rfl,rfl⟩ j1 j3 (by simp only [sp_n,zAO,hn]) (by simp only [zAT,zAO,ne_eq,Nat.reduceEqDiff,zNf,s2]) (by simp only [zAT,zAO,ne_eq,Nat.reduceEqDiff,zNf,s3]) (by simp only [zAT,zAO,ne_eq,Nat.reduceEqDiff,zNf,s4]) (by simp only [zAT,zAO,ne_eq,Nat.reduceEqDiff,zNf,s5]) (by simp only [zAU,zAT,sp_n,zAO,Nat.reduceLT,ne_eq,Nat.reduceEqDiff,zNf,hn]; rfl) (by simp only [zAU,sp_n,zAO,Nat.reduceLT,hn]; rfl)
theorem erS_tw {x x' : Las} (t : Tw x' x) (sp : Int) : erS x' sp = erS x sp := by
  unfold erS
  rw [tw_err t]
theorem sums_rest {A C : AHeap} (hA : Nx A.next A C) {bX bY bx by' : Nat} {x y x' y' : Las} (hX : Has C bX x) (hY : Has C bY y) (hx' : Has C bx x') (hy' : Has C by' y') (tx : Tw x' x) (ty : Tw y' y) {by0 sp0 : Int}
    {s : Slots} (hn : s.n = 143) (s2 : sget s 2 = .int .i64 by0) (s3 : sget s 3 = .int .i64 sp0) (s4 : sget s 4 = .pointer (some ⟨bX,0,none⟩)) (s5 : sget s 5 = .pointer (some ⟨bY,0,none⟩)) (s9 : sget s 9 = .pointer (some ⟨bx,0,none⟩)) (s10 : sget s 10 = .pointer (some ⟨by',0,none⟩)) :
    Rn Try.prog 6 none [.code (restN 3 (Try.f6.body.getD .skip))] s [] C (endQ Try.prog Try.f6 (fun w A1 => w = .bool true ∧ Nx A.next A A1)) := by
  have hC : Nx A.next A C := hA
  have hCC : Nx C.next C C := Nx.refl hA.wf _
  have hD0 : C.next ≤ C.next := Nat.le_refl _
  have hx'1 := hx'.nx hC.wf hCC
  have hy'1 := hy'.nx hC.wf hCC
  have X0 := hx'1.c0
  have X1 := hx'1.c1
  have X2 := hx'1.c2
  have Y0 := hy'1.c0
  have Y1 := hy'1.c1
  have Y2 := hy'1.c2
  refine Rn.seq hc ?_
  refine Rn.region hc fun K hK => ?_
  refine Wo.run hc 2 rfl rfl rfl ?_
  simp (maxSteps := 2000000) only [List.drop_zero,List.take_succ_cons,List.take_zero,zAY,zAT,ne_eq,Nat.reduceEqDiff,not_false_eq_true,gd,zAX,rops,fx,ld,zAR,cls,Nat.zero_add,Option.some.injEq,exists_eq_left',Nat.reduceAdd,tk24,s9,s10,X0,X1,X2,Y0,Y1,Y2]
  refine Wo.call hc (by rfl) (by rfl) ⟨by rfl,by rfl⟩ (xs := [x'.v,y'.v]) (by rfl) (by rfl) (by simp only [zAY,zAU,zAT,sp_n,Nat.reduceLT,ne_eq,Nat.reduceEqDiff,zNf,List.map_cons,List.map_nil,List.nil_append,List.append_nil,hn]; rfl) (Con.mono (sum_run hC.wf hx'1.ok hy'1.ok) ?_)
  rintro w E1 ⟨hE1,mm1,La1,Lb1,ee1,p1,c1,q1,d1,hTP,rfl,i1,i2,w1,w2,-⟩
  obtain ⟨F1,r1,hF1,nF1,e0,e1,e2⟩ := put24 hE1.wf (v0 := .int .i64 mm1) (v1 := .slice p1 La1.length c1) (v2 := .slice q1 Lb1.length d1) rfl
  refine Wo.run hc 6 rfl rfl rfl ?_
  simp (maxSteps := 2000000) only [List.drop_zero,List.drop_succ_cons,List.take_succ_cons,List.take_zero,zAY,zAU,zAT,sp_n,zAO,Nat.reduceLT,ne_eq,Nat.reduceEqDiff,not_false_eq_true,gd,zAX,rops,fx,str,ext,zAR,List.getElem?_toArray,List.getElem?_cons_zero,List.getElem?_cons_succ,Nat.zero_add,Option.some.injEq,exists_eq_left',Value.cells,Nat.reduceAdd,tk24,hn,ext,ze24,r1,List.size_toArray,List.length_cons,List.length_nil,Nat.beq_refl]
  refine Wo.done hc rfl (hK _ _ ?_)
  clear hK X0 X1 X2 Y0 Y1 Y2
  have nE1 := hE1.next
  have hDF1 : Nx C.next C F1 := hE1.trans (hF1.le nE1)
  have hCF1 : Nx C.next C F1 := hCC.trans (hDF1.le hCC.next)
  have hx1 := hX.nx hC.wf hCF1
  have hy1 := hY.nx hC.wf hCF1
  have X0 := hx1.c0
  have X1 := hx1.c1
  have X2 := hx1.c2
  have Y0 := hy1.c0
  have Y1 := hy1.c1
  have Y2 := hy1.c2
  refine Rn.seq hc ?_
  refine Rn.region hc fun K hK => ?_
  refine Wo.run hc 2 rfl rfl rfl ?_
  simp (maxSteps := 2000000) only [List.drop_zero,List.take_succ_cons,List.take_zero,zAY,zAT,ne_eq,Nat.reduceEqDiff,not_false_eq_true,gd,zAX,rops,fx,ld,zAR,cls,Nat.zero_add,Option.some.injEq,exists_eq_left',Nat.reduceAdd,tk24,s4,s5,X0,X1,X2,Y0,Y1,Y2]
  refine Wo.call hc (by rfl) (by rfl) ⟨by rfl,by rfl⟩ (xs := [x.v,y.v]) (by rfl) (by rfl) (by simp only [zAY,zAU,zAT,sp_n,Nat.reduceLT,ne_eq,Nat.reduceEqDiff,zNf,List.map_cons,List.map_nil,List.nil_append,List.append_nil,hn]; rfl) (Con.mono (sum_ref hCF1.wf hx1.ok hy1.ok) ?_)
  intro w G1 hR
  have hR' : TldR F1 (errs [x',y'] [x',y']) x'.m (fun n => (x'.s n + y'.s n).tmod x'.m) w G1 := by
    rw [errs_tw tx ty,tx.1,tw_s tx,tw_s ty]
    exact hR
  obtain ⟨t1,u1,v1,z1,rfl,hG1,hP⟩ := pair_of hE1 hTP i1 i2 w1 w2 hF1 nF1 e0 e1 e2 hR'
  obtain ⟨D1,r2,hH1,nD1,f0,f1,f2⟩ := put24 hG1.wf (v0 := .int .i64 mm1) (v1 := .slice t1 La1.length u1) (v2 := .slice v1 Lb1.length z1) rfl
  have P1 := hP D1 hH1 nD1 f0 f1 f2
  refine Wo.run hc 6 rfl rfl rfl ?_
  simp (maxSteps := 2000000) only [List.drop_zero,List.drop_succ_cons,List.take_succ_cons,List.take_zero,zAY,zAU,zAT,sp_n,zAO,Nat.reduceLT,ne_eq,Nat.reduceEqDiff,not_false_eq_true,gd,zAX,rops,fx,str,ext,zAR,List.getElem?_toArray,List.getElem?_cons_zero,List.getElem?_cons_succ,Nat.zero_add,Option.some.injEq,exists_eq_left',Value.cells,Nat.reduceAdd,tk24,hn,ext,ze24,r2,List.size_toArray,List.length_cons,List.length_nil,Nat.beq_refl]
  refine Wo.done hc rfl (hK _ _ ?_)
  clear hK X0 X1 X2 Y0 Y1 Y2 hP r1 r2 f0 f1 f2 e0 e1 e2 hR hR' hTP i1 i2 w1 w2
  have nG1 := hG1.next
  have nF1' := hF1.next
  have hD1 : Nx C.next C D1 := hCF1.trans ((hG1.trans (hH1.le nG1)).le hCF1.next)
  have hDD1 : Nx F1.next F1 D1 := hG1.trans (hH1.le nG1)
  have hBD1 : Nx C.next C D1 := hDF1.trans (hDD1.le (by omega))
  refine Rn.slots (I := fun s => s.n = 143 ∧ sget s 2 = .int .i64 by0 ∧ sget s 3 = .int .i64 sp0 ∧ sget s 4 = .pointer (some ⟨bX,0,none⟩) ∧ sget s 5 = .pointer (some ⟨bY,0,none⟩) ∧ sget s 9 = .pointer (some ⟨bx,0,none⟩) ∧ sget s 10 = .pointer (some ⟨by',0,none⟩) ∧ sget s 11 = .pointer (some ⟨E1.next,0,none⟩) ∧ sget s 12 = .int .i64 ee1 ∧ sget s 13 = .pointer (some ⟨G1.next,0,none⟩) ∧ sget s 14 = .int .i64 ee1)
    ⟨by simp only [sp_n,hn],by simp only [zAT,ne_eq,Nat.reduceEqDiff,zNf,s2],by simp only [zAT,ne_eq,Nat.reduceEqDiff,zNf,s3],by simp only [zAT,ne_eq,Nat.reduceEqDiff,zNf,s4],by simp only [zAT,ne_eq,Nat.reduceEqDiff,zNf,s5],by simp only [zAT,ne_eq,Nat.reduceEqDiff,zNf,s9],by simp only [zAT,ne_eq,Nat.reduceEqDiff,zNf,s10],by simp only [zAU,zAT,sp_n,Nat.reduceLT,ne_eq,Nat.reduceEqDiff,zNf,hn],by simp only [zAU,zAT,sp_n,Nat.reduceLT,ne_eq,Nat.reduceEqDiff,zNf,hn],by simp only [zAU,zAT,sp_n,Nat.reduceLT,ne_eq,Nat.reduceEqDiff,zNf,hn],by simp only [zAU,sp_n,Nat.reduceLT,hn]⟩ ?_
  clear hn s2 s3 s4 s5 s9 s10 s
  rintro s ⟨hn,s2,s3,s4,s5,s9,s10,s11,s12,s13,s14⟩
  have hx'2 := hx'.nx hC.wf hD1
  have hy'2 := hy'.nx hC.wf hD1
  have X0 := hx'2.c0
  have X1 := hx'2.c1
  have X2 := hx'2.c2
  have Y0 := hy'2.c0
  have Y1 := hy'2.c1
  have Y2 := hy'2.c2
  refine Rn.seq hc ?_
  refine Rn.region hc fun K hK => ?_
  refine Wo.run hc 2 rfl rfl rfl ?_
  simp (maxSteps := 2000000) only [List.drop_zero,List.take_succ_cons,List.take_zero,zAY,zAT,ne_eq,Nat.reduceEqDiff,not_false_eq_true,gd,zAX,rops,fx,ld,zAR,cls,Nat.zero_add,Option.some.injEq,exists_eq_left',Nat.reduceAdd,tk24,s9,s10,X0,X1,X2,Y0,Y1,Y2]
  refine Wo.call hc (by rfl) (by rfl) ⟨by rfl,by rfl⟩ (xs := [x'.v,y'.v]) (by rfl) (by rfl) (by simp only [zAY,zAU,zAT,sp_n,Nat.reduceLT,ne_eq,Nat.reduceEqDiff,zNf,List.map_cons,List.map_nil,List.nil_append,List.append_nil,hn]; rfl) (Con.mono (times_run hD1.wf hx'2.ok hy'2.ok) ?_)
  rintro w E2 ⟨hE2,mm2,La2,Lb2,ee2,p2,c2,q2,d2,hTP,rfl,i1,i2,w1,w2,-⟩
  obtain ⟨F2,r1,hF2,nF2,e0,e1,e2⟩ := put24 hE2.wf (v0 := .int .i64 mm2) (v1 := .slice p2 La2.length c2) (v2 := .slice q2 Lb2.length d2) rfl
  refine Wo.run hc 6 rfl rfl rfl ?_
  simp (maxSteps := 2000000) only [List.drop_zero,List.drop_succ_cons,List.take_succ_cons,List.take_zero,zAY,zAU,zAT,sp_n,zAO,Nat.reduceLT,ne_eq,Nat.reduceEqDiff,not_false_eq_true,gd,zAX,rops,fx,str,ext,zAR,List.getElem?_toArray,List.getElem?_cons_zero,List.getElem?_cons_succ,Nat.zero_add,Option.some.injEq,exists_eq_left',Value.cells,Nat.reduceAdd,tk24,hn,ext,ze24,r1,List.size_toArray,List.length_cons,List.length_nil,Nat.beq_refl]
  refine Wo.done hc rfl (hK _ _ ?_)
  clear hK X0 X1 X2 Y0 Y1 Y2
  have nE2 := hE2.next
  have hDF2 : Nx D1.next D1 F2 := hE2.trans (hF2.le nE2)
  have hCF2 : Nx C.next C F2 := hD1.trans (hDF2.le hD1.next)
  have hx2 := hX.nx hC.wf hCF2
  have hy2 := hY.nx hC.wf hCF2
  have X0 := hx2.c0
  have X1 := hx2.c1
  have X2 := hx2.c2
  have Y0 := hy2.c0
  have Y1 := hy2.c1
  have Y2 := hy2.c2
  refine Rn.seq hc ?_
  refine Rn.region hc fun K hK => ?_
  refine Wo.run hc 2 rfl rfl rfl ?_
  simp (maxSteps := 2000000) only [List.drop_zero,List.take_succ_cons,List.take_zero,zAY,zAT,ne_eq,Nat.reduceEqDiff,not_false_eq_true,gd,zAX,rops,fx,ld,zAR,cls,Nat.zero_add,Option.some.injEq,exists_eq_left',Nat.reduceAdd,tk24,s4,s5,X0,X1,X2,Y0,Y1,Y2]
  refine Wo.call hc (by rfl) (by rfl) ⟨by rfl,by rfl⟩ (xs := [x.v,y.v]) (by rfl) (by rfl) (by simp only [zAY,zAU,zAT,sp_n,Nat.reduceLT,ne_eq,Nat.reduceEqDiff,zNf,List.map_cons,List.map_nil,List.nil_append,List.append_nil,hn]; rfl) (Con.mono (times_ref hCF2.wf hx2.ok hy2.ok) ?_)
  intro w G2 hR
  have hR' : TldR F2 (errs [x',y'] [x',y']) x'.m (fun n => (x'.s n * y'.s n).tmod x'.m) w G2 := by
    rw [errs_tw tx ty,tx.1,tw_s tx,tw_s ty]
    exact hR
  obtain ⟨t2,u2,v2,z2,rfl,hG2,hP⟩ := pair_of hE2 hTP i1 i2 w1 w2 hF2 nF2 e0 e1 e2 hR'
  obtain ⟨D2,r2,hH2,nD2,f0,f1,f2⟩ := put24 hG2.wf (v0 := .int .i64 mm2) (v1 := .slice t2 La2.length u2) (v2 := .slice v2 Lb2.length z2) rfl
  have P2 := hP D2 hH2 nD2 f0 f1 f2
  refine Wo.run hc 6 rfl rfl rfl ?_
  simp (maxSteps := 2000000) only [List.drop_zero,List.drop_succ_cons,List.take_succ_cons,List.take_zero,zAY,zAU,zAT,sp_n,zAO,Nat.reduceLT,ne_eq,Nat.reduceEqDiff,not_false_eq_true,gd,zAX,rops,fx,str,ext,zAR,List.getElem?_toArray,List.getElem?_cons_zero,List.getElem?_cons_succ,Nat.zero_add,Option.some.injEq,exists_eq_left',Value.cells,Nat.reduceAdd,tk24,hn,ext,ze24,r2,List.size_toArray,List.length_cons,List.length_nil,Nat.beq_refl]
  refine Wo.done hc rfl (hK _ _ ?_)
  clear hK X0 X1 X2 Y0 Y1 Y2 hP r1 r2 f0 f1 f2 e0 e1 e2 hR hR' hTP i1 i2 w1 w2
  have nG2 := hG2.next
  have nF2' := hF2.next
  have hD2 : Nx C.next C D2 := hCF2.trans ((hG2.trans (hH2.le nG2)).le hCF2.next)
  have hDD2 : Nx F2.next F2 D2 := hG2.trans (hH2.le nG2)
  have hBD2 : Nx D1.next D1 D2 := hDF2.trans (hDD2.le (by omega))
  refine Rn.slots (I := fun s => s.n = 143 ∧ sget s 2 = .int .i64 by0 ∧ sget s 3 = .int .i64 sp0 ∧ sget s 4 = .pointer (some ⟨bX,0,none⟩) ∧ sget s 5 = .pointer (some ⟨bY,0,none⟩) ∧ sget s 9 = .pointer (some ⟨bx,0,none⟩) ∧ sget s 10 = .pointer (some ⟨by',0,none⟩) ∧ sget s 11 = .pointer (some ⟨E1.next,0,none⟩) ∧ sget s 12 = .int .i64 ee1 ∧ sget s 13 = .pointer (some ⟨G1.next,0,none⟩) ∧ sget s 14 = .int .i64 ee1 ∧ sget s 15 = .pointer (some ⟨E2.next,0,none⟩) ∧ sget s 16 = .int .i64 ee2 ∧ sget s 17 = .pointer (some ⟨G2.next,0,none⟩) ∧ sget s 18 = .int .i64 ee2)
    ⟨by simp only [sp_n,hn],by simp only [zAT,ne_eq,Nat.reduceEqDiff,zNf,s2],by simp only [zAT,ne_eq,Nat.reduceEqDiff,zNf,s3],by simp only [zAT,ne_eq,Nat.reduceEqDiff,zNf,s4],by simp only [zAT,ne_eq,Nat.reduceEqDiff,zNf,s5],by simp only [zAT,ne_eq,Nat.reduceEqDiff,zNf,s9],by simp only [zAT,ne_eq,Nat.reduceEqDiff,zNf,s10],by simp only [zAT,ne_eq,Nat.reduceEqDiff,zNf,s11],by simp only [zAT,ne_eq,Nat.reduceEqDiff,zNf,s12],by simp only [zAT,ne_eq,Nat.reduceEqDiff,zNf,s13],by simp only [zAT,ne_eq,Nat.reduceEqDiff,zNf,s14],by simp only [zAU,zAT,sp_n,Nat.reduceLT,ne_eq,Nat.reduceEqDiff,zNf,hn],by simp only [zAU,zAT,sp_n,Nat.reduceLT,ne_eq,Nat.reduceEqDiff,zNf,hn],by simp only [zAU,zAT,sp_n,Nat.reduceLT,ne_eq,Nat.reduceEqDiff,zNf,hn],by simp only [zAU,sp_n,Nat.reduceLT,hn]⟩ ?_
  clear hn s2 s3 s4 s5 s9 s10 s11 s12 s13 s14 s
  rintro s ⟨hn,s2,s3,s4,s5,s9,s10,s11,s12,s13,s14,s15,s16,s17,s18⟩
  have P1' := P1.nx hBD2
  have a0 := P1'.c0
  have a1 := P1'.c1
  have a2 := P1'.c2
  have a3 := P1'.d0
  have a4 := P1'.d1
  have a5 := P1'.d2
  refine Rn.seq hc ?_
  refine Rn.seq hc ?_
  refine Rn.region hc fun K hK => ?_
  refine Wo.run hc 2 rfl rfl rfl ?_
  simp (maxSteps := 2000000) only [List.drop_zero,List.take_succ_cons,List.take_zero,zAY,zAT,ne_eq,Nat.reduceEqDiff,not_false_eq_true,gd,zAX,rops,fx,ld,zAR,cls,Nat.zero_add,Option.some.injEq,exists_eq_left',Nat.reduceAdd,tk24,s11,s13,a0,a1,a2,a3,a4,a5]
  refine Wo.call hc (by rfl) (by rfl) ⟨by rfl,by rfl⟩ (xs := [(⟨mm1,p1,c1,La1,q1,d1,Lb1⟩ : Las).v,(⟨mm1,t1,u1,La1,v1,z1,Lb1⟩ : Las).v]) (by rfl) (by rfl) (by simp only [zAY,zAU,zAT,sp_n,Nat.reduceLT,ne_eq,Nat.reduceEqDiff,zNf,List.map_cons,List.map_nil,List.nil_append,List.append_nil,hn]; rfl) (Con.mono (same_true hD2.wf P1'.ok' P1'.ok P1'.tw) ?_)
  rintro w H1 ⟨rfl,k1⟩
  have P2' := P2.nx k1
  have a0 := P2'.c0
  have a1 := P2'.c1
  have a2 := P2'.c2
  have a3 := P2'.d0
  have a4 := P2'.d1
  have a5 := P2'.d2
  refine Wo.run hc 9 rfl rfl rfl ?_
  simp (maxSteps := 2000000) only [List.drop_zero,List.drop_succ_cons,List.take_succ_cons,List.take_zero,zAY,zAU,zAT,sp_n,Nat.reduceLT,ne_eq,Nat.reduceEqDiff,not_false_eq_true,gd,nth,zAX,zAQ,beqB,rops,fx,ld,pck,zAD,zAR,cls,Nat.zero_add,Option.some.injEq,exists_eq_left',Nat.reduceAdd,Bool.not_true,ae_not',Bool.not_true,tk24,hn,s12,s14,s15,s17,eq_self,decide_true,Bool.not_true,a0,a1,a2,a3,a4,a5]
  refine Wo.call hc (by rfl) (by rfl) ⟨by rfl,by rfl⟩ (xs := [(⟨mm2,p2,c2,La2,q2,d2,Lb2⟩ : Las).v,(⟨mm2,t2,u2,La2,v2,z2,Lb2⟩ : Las).v]) (by simp only [zAU,zAT,sp_n,Nat.reduceLT,ne_eq,Nat.reduceEqDiff,zNf,gd,nth,zAQ,beqB,hn]) (by rfl) (by simp only [zAY,zAU,zAT,sp_n,Nat.reduceLT,ne_eq,Nat.reduceEqDiff,zNf,List.map_cons,List.map_nil,List.nil_append,List.append_nil,hn]; rfl) (Con.mono (same_true k1.wf P2'.ok' P2'.ok P2'.tw) ?_)
  rintro w H2 ⟨rfl,k2⟩
  refine Wo.run hc 7 rfl rfl rfl ?_
  simp (maxSteps := 2000000) only [List.drop_zero,List.drop_succ_cons,List.take_succ_cons,List.take_zero,zAY,zAU,zAT,sp_n,Nat.reduceLT,ne_eq,Nat.reduceEqDiff,not_false_eq_true,gd,nth,zAX,zAQ,beqB,rops,fx,pck,zAD,Option.some.injEq,exists_eq_left',Nat.reduceAdd,Bool.not_true,ae_not',Bool.not_true,hn,s16,s18,eq_self,decide_true,Bool.not_true]
  refine Wo.done hc rfl (hK _ _ ?_)
  clear hK a0 a1 a2 a3 a4 a5
  refine Rn.zAL hc rfl ?_
  simp only [zAY,zAU,sp_n,Nat.reduceLT,hn,Value.bool.injEq,zEl]
  refine Rn.skip hc ?_
  have hD2H : Nx D2.next D2 H2 := k1.trans (k2.le k1.next)
  have hH2' : Nx C.next C H2 := hD2.trans (hD2H.le hD2.next)
  have P1 := P1'.nx hD2H
  have P2 := P2'.nx k2
  clear P1' P2'
  have nH2 := hD2H.next
  refine Rn.slots (I := fun s => s.n = 143 ∧ sget s 2 = .int .i64 by0 ∧ sget s 3 = .int .i64 sp0 ∧ sget s 4 = .pointer (some ⟨bX,0,none⟩) ∧ sget s 5 = .pointer (some ⟨bY,0,none⟩) ∧ sget s 9 = .pointer (some ⟨bx,0,none⟩) ∧ sget s 10 = .pointer (some ⟨by',0,none⟩) ∧ sget s 11 = .pointer (some ⟨E1.next,0,none⟩) ∧ sget s 15 = .pointer (some ⟨E2.next,0,none⟩))
    ⟨by simp only [sp_n,hn],by simp only [zAT,ne_eq,Nat.reduceEqDiff,zNf,s2],by simp only [zAT,ne_eq,Nat.reduceEqDiff,zNf,s3],by simp only [zAT,ne_eq,Nat.reduceEqDiff,zNf,s4],by simp only [zAT,ne_eq,Nat.reduceEqDiff,zNf,s5],by simp only [zAT,ne_eq,Nat.reduceEqDiff,zNf,s9],by simp only [zAT,ne_eq,Nat.reduceEqDiff,zNf,s10],by simp only [zAT,ne_eq,Nat.reduceEqDiff,zNf,s11],by simp only [zAT,ne_eq,Nat.reduceEqDiff,zNf,s15]⟩ ?_
  clear hn s2 s3 s4 s5 s9 s10 s11 s12 s13 s14 s15 s16 s17 s18 s
  rintro s ⟨hn,s2,s3,s4,s5,s9,s10,s11,s15⟩
  have hx'3 := hx'.nx hC.wf hH2'
  have hy'3 := hy'.nx hC.wf hH2'
  have X0 := hx'3.c0
  have X1 := hx'3.c1
  have X2 := hx'3.c2
  have Y0 := hy'3.c0
  have Y1 := hy'3.c1
  have Y2 := hy'3.c2
  refine Rn.seq hc ?_
  refine Rn.region hc fun K hK => ?_
  refine Wo.run hc 2 rfl rfl rfl ?_
  simp (maxSteps := 2000000) only [List.drop_zero,List.take_succ_cons,List.take_zero,zAY,zAT,ne_eq,Nat.reduceEqDiff,not_false_eq_true,gd,zAX,rops,fx,ld,zAR,cls,Nat.zero_add,Option.some.injEq,exists_eq_left',Nat.reduceAdd,tk24,s9,s2,X0,X1,X2]
  refine Wo.call hc (by rfl) (by rfl) ⟨by rfl,by rfl⟩ (xs := [x'.v,.int .i64 by0]) (by rfl) (by rfl) (by simp only [zAY,zAU,zAT,sp_n,Nat.reduceLT,ne_eq,Nat.reduceEqDiff,zNf,List.map_cons,List.map_nil,List.nil_append,List.append_nil,hn]; rfl) (Con.mono (scale_run hH2'.wf hx'3.ok (k := by0)) ?_)
  rintro w E3 ⟨hE3,mm3,La3,Lb3,ee3,p3,c3,q3,d3,hTP,rfl,i1,i2,w1,w2,-⟩
  obtain ⟨F3,r1,hF3,nF3,e0,e1,e2⟩ := put24 hE3.wf (v0 := .int .i64 mm3) (v1 := .slice p3 La3.length c3) (v2 := .slice q3 Lb3.length d3) rfl
  refine Wo.run hc 6 rfl rfl rfl ?_
  simp (maxSteps := 2000000) only [List.drop_zero,List.drop_succ_cons,List.take_succ_cons,List.take_zero,zAY,zAU,zAT,sp_n,zAO,Nat.reduceLT,ne_eq,Nat.reduceEqDiff,not_false_eq_true,gd,zAX,rops,fx,str,ext,zAR,List.getElem?_toArray,List.getElem?_cons_zero,List.getElem?_cons_succ,Nat.zero_add,Option.some.injEq,exists_eq_left',Value.cells,Nat.reduceAdd,tk24,hn,ext,ze24,r1,List.size_toArray,List.length_cons,List.length_nil,Nat.beq_refl]
  refine Wo.done hc rfl (hK _ _ ?_)
  clear hK X0 X1 X2 Y0 Y1 Y2
  have nE3 := hE3.next
  have hDF3 : Nx H2.next H2 F3 := hE3.trans (hF3.le nE3)
  have hCF3 : Nx C.next C F3 := hH2'.trans (hDF3.le hH2'.next)
  have hx3 := hX.nx hC.wf hCF3
  have hy3 := hY.nx hC.wf hCF3
  have X0 := hx3.c0
  have X1 := hx3.c1
  have X2 := hx3.c2
  have Y0 := hy3.c0
  have Y1 := hy3.c1
  have Y2 := hy3.c2
  refine Rn.seq hc ?_
  refine Rn.region hc fun K hK => ?_
  refine Wo.run hc 2 rfl rfl rfl ?_
  simp (maxSteps := 2000000) only [List.drop_zero,List.take_succ_cons,List.take_zero,zAY,zAT,ne_eq,Nat.reduceEqDiff,not_false_eq_true,gd,zAX,rops,fx,ld,zAR,cls,Nat.zero_add,Option.some.injEq,exists_eq_left',Nat.reduceAdd,tk24,s4,s2,X0,X1,X2]
  refine Wo.call hc (by rfl) (by rfl) ⟨by rfl,by rfl⟩ (xs := [x.v,.int .i64 by0]) (by rfl) (by rfl) (by simp only [zAY,zAU,zAT,sp_n,Nat.reduceLT,ne_eq,Nat.reduceEqDiff,zNf,List.map_cons,List.map_nil,List.nil_append,List.append_nil,hn]; rfl) (Con.mono (scale_ref hCF3.wf hx3.ok (k := by0)) ?_)
  intro w G3 hR
  have hR' : TldR F3 x'.err x'.m (fun n => (nrm by0 x'.m * x'.s n).tmod x'.m) w G3 := by
    rw [tw_err tx,tx.1,tw_s tx]
    exact hR
  obtain ⟨t3,u3,v3,z3,rfl,hG3,hP⟩ := pair_of hE3 hTP i1 i2 w1 w2 hF3 nF3 e0 e1 e2 hR'
  obtain ⟨D3,r2,hH3,nD3,f0,f1,f2⟩ := put24 hG3.wf (v0 := .int .i64 mm3) (v1 := .slice t3 La3.length u3) (v2 := .slice v3 Lb3.length z3) rfl
  have P3 := hP D3 hH3 nD3 f0 f1 f2
  refine Wo.run hc 6 rfl rfl rfl ?_
  simp (maxSteps := 2000000) only [List.drop_zero,List.drop_succ_cons,List.take_succ_cons,List.take_zero,zAY,zAU,zAT,sp_n,zAO,Nat.reduceLT,ne_eq,Nat.reduceEqDiff,not_false_eq_true,gd,zAX,rops,fx,str,ext,zAR,List.getElem?_toArray,List.getElem?_cons_zero,List.getElem?_cons_succ,Nat.zero_add,Option.some.injEq,exists_eq_left',Value.cells,Nat.reduceAdd,tk24,hn,ext,ze24,r2,List.size_toArray,List.length_cons,List.length_nil,Nat.beq_refl]
  refine Wo.done hc rfl (hK _ _ ?_)
  clear hK X0 X1 X2 Y0 Y1 Y2 hP r1 r2 f0 f1 f2 e0 e1 e2 hR hR' hTP i1 i2 w1 w2
  have nG3 := hG3.next
  have nF3' := hF3.next
  have hD3 : Nx C.next C D3 := hCF3.trans ((hG3.trans (hH3.le nG3)).le hCF3.next)
  have hDD3 : Nx F3.next F3 D3 := hG3.trans (hH3.le nG3)
  have hBD3 : Nx H2.next H2 D3 := hDF3.trans (hDD3.le (by omega))
  refine Rn.slots (I := fun s => s.n = 143 ∧ sget s 3 = .int .i64 sp0 ∧ sget s 4 = .pointer (some ⟨bX,0,none⟩) ∧ sget s 5 = .pointer (some ⟨bY,0,none⟩) ∧ sget s 9 = .pointer (some ⟨bx,0,none⟩) ∧ sget s 10 = .pointer (some ⟨by',0,none⟩) ∧ sget s 11 = .pointer (some ⟨E1.next,0,none⟩) ∧ sget s 12 = .int .i64 ee3 ∧ sget s 14 = .int .i64 ee3 ∧ sget s 15 = .pointer (some ⟨E2.next,0,none⟩) ∧ sget s 19 = .pointer (some ⟨E3.next,0,none⟩) ∧ sget s 20 = .pointer (some ⟨G3.next,0,none⟩))
    ⟨by simp only [sp_n,hn],by simp only [zAT,ne_eq,Nat.reduceEqDiff,zNf,s3],by simp only [zAT,ne_eq,Nat.reduceEqDiff,zNf,s4],by simp only [zAT,ne_eq,Nat.reduceEqDiff,zNf,s5],by simp only [zAT,ne_eq,Nat.reduceEqDiff,zNf,s9],by simp only [zAT,ne_eq,Nat.reduceEqDiff,zNf,s10],by simp only [zAT,ne_eq,Nat.reduceEqDiff,zNf,s11],by simp only [zAU,zAT,sp_n,Nat.reduceLT,ne_eq,Nat.reduceEqDiff,zNf,hn],by simp only [zAU,sp_n,Nat.reduceLT,hn],by simp only [zAT,ne_eq,Nat.reduceEqDiff,zNf,s15],by simp only [zAU,zAT,sp_n,Nat.reduceLT,ne_eq,Nat.reduceEqDiff,zNf,hn],by simp only [zAU,zAT,sp_n,Nat.reduceLT,ne_eq,Nat.reduceEqDiff,zNf,hn]⟩ ?_
  clear hn s2 s3 s4 s5 s9 s10 s11 s15 s
  rintro s ⟨hn,s3,s4,s5,s9,s10,s11,s12,s14,s15,s19,s20⟩
  have hx'4 := hx'.nx hC.wf hD3
  have hy'4 := hy'.nx hC.wf hD3
  have X0 := hx'4.c0
  have X1 := hx'4.c1
  have X2 := hx'4.c2
  have Y0 := hy'4.c0
  have Y1 := hy'4.c1
  have Y2 := hy'4.c2
  refine Rn.seq hc ?_
  refine Rn.region hc fun K hK => ?_
  refine Wo.run hc 2 rfl rfl rfl ?_
  simp (maxSteps := 2000000) only [List.drop_zero,List.take_succ_cons,List.take_zero,zAY,zAT,ne_eq,Nat.reduceEqDiff,not_false_eq_true,gd,zAX,rops,fx,ld,zAR,cls,Nat.zero_add,Option.some.injEq,exists_eq_left',Nat.reduceAdd,tk24,s9,s3,X0,X1,X2]
  refine Wo.call hc (by rfl) (by rfl) ⟨by rfl,by rfl⟩ (xs := [x'.v,.int .i64 sp0]) (by rfl) (by rfl) (by simp only [zAY,zAU,zAT,sp_n,Nat.reduceLT,ne_eq,Nat.reduceEqDiff,zNf,List.map_cons,List.map_nil,List.nil_append,List.append_nil,hn]; rfl) (Con.mono (scan_run hD3.wf hx'4.ok (sp := sp0)) ?_)
  rintro w E4 ⟨hE4,mm4,La4,Lb4,ee4,p4,c4,q4,d4,hTP,rfl,i1,i2,w1,w2,-⟩
  obtain ⟨F4,r1,hF4,nF4,e0,e1,e2⟩ := put24 hE4.wf (v0 := .int .i64 mm4) (v1 := .slice p4 La4.length c4) (v2 := .slice q4 Lb4.length d4) rfl
  refine Wo.run hc 6 rfl rfl rfl ?_
  simp (maxSteps := 2000000) only [List.drop_zero,List.drop_succ_cons,List.take_succ_cons,List.take_zero,zAY,zAU,zAT,sp_n,zAO,Nat.reduceLT,ne_eq,Nat.reduceEqDiff,not_false_eq_true,gd,zAX,rops,fx,str,ext,zAR,List.getElem?_toArray,List.getElem?_cons_zero,List.getElem?_cons_succ,Nat.zero_add,Option.some.injEq,exists_eq_left',Value.cells,Nat.reduceAdd,tk24,hn,ext,ze24,r1,List.size_toArray,List.length_cons,List.length_nil,Nat.beq_refl]
  refine Wo.done hc rfl (hK _ _ ?_)
  clear hK X0 X1 X2 Y0 Y1 Y2
  have nE4 := hE4.next
  have hDF4 : Nx D3.next D3 F4 := hE4.trans (hF4.le nE4)
  have hCF4 : Nx C.next C F4 := hD3.trans (hDF4.le hD3.next)
  have hx4 := hX.nx hC.wf hCF4
  have hy4 := hY.nx hC.wf hCF4
  have X0 := hx4.c0
  have X1 := hx4.c1
  have X2 := hx4.c2
  have Y0 := hy4.c0
  have Y1 := hy4.c1
  have Y2 := hy4.c2
  refine Rn.seq hc ?_
  refine Rn.region hc fun K hK => ?_
  refine Wo.run hc 2 rfl rfl rfl ?_
  simp (maxSteps := 2000000) only [List.drop_zero,List.take_succ_cons,List.take_zero,zAY,zAT,ne_eq,Nat.reduceEqDiff,not_false_eq_true,gd,zAX,rops,fx,ld,zAR,cls,Nat.zero_add,Option.some.injEq,exists_eq_left',Nat.reduceAdd,tk24,s4,s3,X0,X1,X2]
  refine Wo.call hc (by rfl) (by rfl) ⟨by rfl,by rfl⟩ (xs := [x.v,.int .i64 sp0]) (by rfl) (by rfl) (by simp only [zAY,zAU,zAT,sp_n,Nat.reduceLT,ne_eq,Nat.reduceEqDiff,zNf,List.map_cons,List.map_nil,List.nil_append,List.append_nil,hn]; rfl) (Con.mono (scan_ref hCF4.wf hx4.ok hx4.s2 hx4.cr (sp := sp0)) ?_)
  intro w G4 hR
  have hR' : TldR F4 (erS x' sp0) x'.m (scn x'.m x'.s sp0.toNat) w G4 := by
    rw [erS_tw tx,tx.1,tw_s tx]
    exact hR
  obtain ⟨t4,u4,v4,z4,rfl,hG4,hP⟩ := pair_of hE4 hTP i1 i2 w1 w2 hF4 nF4 e0 e1 e2 hR'
  obtain ⟨D4,r2,hH4,nD4,f0,f1,f2⟩ := put24 hG4.wf (v0 := .int .i64 mm4) (v1 := .slice t4 La4.length u4) (v2 := .slice v4 Lb4.length z4) rfl
  have P4 := hP D4 hH4 nD4 f0 f1 f2
  refine Wo.run hc 6 rfl rfl rfl ?_
  simp (maxSteps := 2000000) only [List.drop_zero,List.drop_succ_cons,List.take_succ_cons,List.take_zero,zAY,zAU,zAT,sp_n,zAO,Nat.reduceLT,ne_eq,Nat.reduceEqDiff,not_false_eq_true,gd,zAX,rops,fx,str,ext,zAR,List.getElem?_toArray,List.getElem?_cons_zero,List.getElem?_cons_succ,Nat.zero_add,Option.some.injEq,exists_eq_left',Value.cells,Nat.reduceAdd,tk24,hn,ext,ze24,r2,List.size_toArray,List.length_cons,List.length_nil,Nat.beq_refl]
  refine Wo.done hc rfl (hK _ _ ?_)
  clear hK X0 X1 X2 Y0 Y1 Y2 hP r1 r2 f0 f1 f2 e0 e1 e2 hR hR' hTP i1 i2 w1 w2
  have nG4 := hG4.next
  have nF4' := hF4.next
  have hD4 : Nx C.next C D4 := hCF4.trans ((hG4.trans (hH4.le nG4)).le hCF4.next)
  have hDD4 : Nx F4.next F4 D4 := hG4.trans (hH4.le nG4)
  have hBD4 : Nx D3.next D3 D4 := hDF4.trans (hDD4.le (by omega))
  refine Rn.slots (I := fun s => s.n = 143 ∧ sget s 4 = .pointer (some ⟨bX,0,none⟩) ∧ sget s 5 = .pointer (some ⟨bY,0,none⟩) ∧ sget s 9 = .pointer (some ⟨bx,0,none⟩) ∧ sget s 10 = .pointer (some ⟨by',0,none⟩) ∧ sget s 11 = .pointer (some ⟨E1.next,0,none⟩) ∧ sget s 12 = .int .i64 ee3 ∧ sget s 14 = .int .i64 ee3 ∧ sget s 15 = .pointer (some ⟨E2.next,0,none⟩) ∧ sget s 19 = .pointer (some ⟨E3.next,0,none⟩) ∧ sget s 20 = .pointer (some ⟨G3.next,0,none⟩) ∧ sget s 21 = .pointer (some ⟨E4.next,0,none⟩) ∧ sget s 16 = .int .i64 ee4 ∧ sget s 22 = .pointer (some ⟨G4.next,0,none⟩) ∧ sget s 18 = .int .i64 ee4)
    ⟨by simp only [sp_n,hn],by simp only [zAT,ne_eq,Nat.reduceEqDiff,zNf,s4],by simp only [zAT,ne_eq,Nat.reduceEqDiff,zNf,s5],by simp only [zAT,ne_eq,Nat.reduceEqDiff,zNf,s9],by simp only [zAT,ne_eq,Nat.reduceEqDiff,zNf,s10],by simp only [zAT,ne_eq,Nat.reduceEqDiff,zNf,s11],by simp only [zAT,ne_eq,Nat.reduceEqDiff,zNf,s12],by simp only [zAT,ne_eq,Nat.reduceEqDiff,zNf,s14],by simp only [zAT,ne_eq,Nat.reduceEqDiff,zNf,s15],by simp only [zAT,ne_eq,Nat.reduceEqDiff,zNf,s19],by simp only [zAT,ne_eq,Nat.reduceEqDiff,zNf,s20],by simp only [zAU,zAT,sp_n,Nat.reduceLT,ne_eq,Nat.reduceEqDiff,zNf,hn],by simp only [zAU,zAT,sp_n,Nat.reduceLT,ne_eq,Nat.reduceEqDiff,zNf,hn],by simp only [zAU,zAT,sp_n,Nat.reduceLT,ne_eq,Nat.reduceEqDiff,zNf,hn],by simp only [zAU,sp_n,Nat.reduceLT,hn]⟩ ?_
  clear hn s3 s4 s5 s9 s10 s11 s12 s14 s15 s19 s20 s
  rintro s ⟨hn,s4,s5,s9,s10,s11,s12,s14,s15,s19,s20,s21,s16,s22,s18⟩
  have P3' := P3.nx hBD4
  have a0 := P3'.c0
  have a1 := P3'.c1
  have a2 := P3'.c2
  have a3 := P3'.d0
  have a4 := P3'.d1
  have a5 := P3'.d2
  refine Rn.seq hc ?_
  refine Rn.region hc fun K hK => ?_
  refine Wo.run hc 2 rfl rfl rfl ?_
  simp (maxSteps := 2000000) only [List.drop_zero,List.take_succ_cons,List.take_zero,zAY,zAT,ne_eq,Nat.reduceEqDiff,not_false_eq_true,gd,zAX,rops,fx,ld,zAR,cls,Nat.zero_add,Option.some.injEq,exists_eq_left',Nat.reduceAdd,tk24,s19,s20,a0,a1,a2,a3,a4,a5]
  refine Wo.call hc (by rfl) (by rfl) ⟨by rfl,by rfl⟩ (xs := [(⟨mm3,p3,c3,La3,q3,d3,Lb3⟩ : Las).v,(⟨mm3,t3,u3,La3,v3,z3,Lb3⟩ : Las).v]) (by rfl) (by rfl) (by simp only [zAY,zAU,zAT,sp_n,Nat.reduceLT,ne_eq,Nat.reduceEqDiff,zNf,List.map_cons,List.map_nil,List.nil_append,List.append_nil,hn]; rfl) (Con.mono (same_true hD4.wf P3'.ok' P3'.ok P3'.tw) ?_)
  rintro w J1 ⟨rfl,k3⟩
  have P4' := P4.nx k3
  have a0 := P4'.c0
  have a1 := P4'.c1
  have a2 := P4'.c2
  have a3 := P4'.d0
  have a4 := P4'.d1
  have a5 := P4'.d2
  refine Wo.run hc 8 rfl rfl rfl ?_
  simp (maxSteps := 2000000) only [List.drop_zero,List.drop_succ_cons,List.take_succ_cons,List.take_zero,zAY,zAU,zAT,sp_n,Nat.reduceLT,ne_eq,Nat.reduceEqDiff,not_false_eq_true,gd,nth,zAX,zAQ,beqB,rops,fx,ld,pck,zDU,zAR,cls,Nat.zero_add,Option.some.injEq,exists_eq_left',Nat.reduceAdd,tk24,hn,s12,s14,s21,s22,eq_self,decide_true,a0,a1,a2,a3,a4,a5]
  refine Wo.call hc (by rfl) (by rfl) ⟨by rfl,by rfl⟩ (xs := [(⟨mm4,p4,c4,La4,q4,d4,Lb4⟩ : Las).v,(⟨mm4,t4,u4,La4,v4,z4,Lb4⟩ : Las).v]) (by simp only [zAU,zAT,sp_n,Nat.reduceLT,ne_eq,Nat.reduceEqDiff,zNf,gd,nth,zAQ,beqB,hn]) (by rfl) (by simp only [zAY,zAU,zAT,sp_n,Nat.reduceLT,ne_eq,Nat.reduceEqDiff,zNf,List.map_cons,List.map_nil,List.nil_append,List.append_nil,hn]; rfl) (Con.mono (same_true k3.wf P4'.ok' P4'.ok P4'.tw) ?_)
  rintro w J2 ⟨rfl,k4⟩
  refine Wo.run hc 7 rfl rfl rfl ?_
  simp (maxSteps := 2000000) only [List.drop_zero,List.drop_succ_cons,List.take_succ_cons,List.take_zero,zAY,zAU,zAT,sp_n,Nat.reduceLT,ne_eq,Nat.reduceEqDiff,not_false_eq_true,gd,nth,zAX,zAQ,beqB,rops,fx,pck,zDU,Option.some.injEq,exists_eq_left',Nat.reduceAdd,hn,s16,s18,eq_self,decide_true]
  refine Wo.done hc rfl (hK _ _ ?_)
  clear hK a0 a1 a2 a3 a4 a5
  have hD4J : Nx D4.next D4 J2 := k3.trans (k4.le k3.next)
  have hJ2 : Nx C.next C J2 := hD4.trans (hD4J.le hD4.next)
  have hH2D4 : Nx H2.next H2 D4 := hBD3.trans (hBD4.le hBD3.next)
  have hH2J : Nx H2.next H2 J2 := hH2D4.trans (hD4J.le hH2D4.next)
  have S1 := (P1.nx hH2J).sp
  have S2 := (P2.nx hH2J).sp
  have S3 := (P3'.nx hD4J).sp
  have S4 := (P4'.nx k4).sp
  refine Rn.slots (I := fun s => s.n = 143 ∧ sget s 4 = .pointer (some ⟨bX,0,none⟩) ∧ sget s 5 = .pointer (some ⟨bY,0,none⟩) ∧ sget s 9 = .pointer (some ⟨bx,0,none⟩) ∧ sget s 10 = .pointer (some ⟨by',0,none⟩) ∧ sget s 11 = .pointer (some ⟨E1.next,0,none⟩) ∧ sget s 15 = .pointer (some ⟨E2.next,0,none⟩) ∧ sget s 19 = .pointer (some ⟨E3.next,0,none⟩) ∧ sget s 21 = .pointer (some ⟨E4.next,0,none⟩) ∧ sget s 23 = .bool true)
    ⟨by simp only [sp_n,hn],by simp only [zAT,ne_eq,Nat.reduceEqDiff,zNf,s4],by simp only [zAT,ne_eq,Nat.reduceEqDiff,zNf,s5],by simp only [zAT,ne_eq,Nat.reduceEqDiff,zNf,s9],by simp only [zAT,ne_eq,Nat.reduceEqDiff,zNf,s10],by simp only [zAT,ne_eq,Nat.reduceEqDiff,zNf,s11],by simp only [zAT,ne_eq,Nat.reduceEqDiff,zNf,s15],by simp only [zAT,ne_eq,Nat.reduceEqDiff,zNf,s19],by simp only [zAT,ne_eq,Nat.reduceEqDiff,zNf,s21],by simp only [zAU,sp_n,Nat.reduceLT,hn]⟩ ?_
  clear hn s4 s5 s9 s10 s11 s12 s14 s15 s19 s20 s21 s16 s22 s18 s
  rintro s ⟨hn,s4,s5,s9,s10,s11,s15,s19,s21,s23⟩
  clear P1 P2 P3 P4 P3' P4'
  have nD1 := hD1.next
  have nHC := hH2'.next
  have nD3 := hBD3.next
  have nCD := hDD1.next
  have nCD2 := hDD2.next
  have nCD3 := hDD3.next
  have nJ := hD4J.next
  have a0 := S1.c0
  have a1 := S1.c1
  have a2 := S1.c2
  refine Rn.seq hc ?_
  refine Rn.region hc fun K hK => ?_
  refine Wo.run hc 1 rfl rfl rfl ?_
  simp (maxSteps := 2000000) only [List.drop_zero,List.take_succ_cons,List.take_zero,zAY,gd,zAX,rops,fx,ld,zAR,cls,Nat.zero_add,Option.some.injEq,exists_eq_left',Nat.reduceAdd,tk24,s11,a0,a1,a2]
  refine Wo.call hc (by rfl) (by rfl) ⟨by rfl,by rfl⟩ (xs := [(⟨mm1,p1,c1,La1,q1,d1,Lb1⟩ : Las).v]) (by rfl) (by rfl) (by simp only [zAY,zAU,Nat.reduceLT,List.map_cons,List.map_nil,List.nil_append,List.append_nil,hn]; rfl) (Con.mono (spoil_off hJ2.wf (show E1.next ≤ J2.next by have := S1.lt; omega) S1.w1 S1.w2 S1.ln) ?_)
  rintro w K1 j1
  refine Wo.done hc rfl (hK _ _ ?_)
  clear hK a0 a1 a2
  have hK1 := nx_off hJ2 j1 (by omega)
  have S2 := S2.off j1 (by omega) (by omega)
  have S3 := S3.off j1 (by omega) (by omega)
  have S4 := S4.off j1 (by omega) (by omega)
  have a0 := S2.c0
  have a1 := S2.c1
  have a2 := S2.c2
  refine Rn.seq hc ?_
  refine Rn.region hc fun K hK => ?_
  refine Wo.run hc 1 rfl rfl rfl ?_
  simp (maxSteps := 2000000) only [List.drop_zero,List.take_succ_cons,List.take_zero,zAY,zAT,ne_eq,Nat.reduceEqDiff,not_false_eq_true,gd,zAX,rops,fx,ld,zAR,cls,Nat.zero_add,Option.some.injEq,exists_eq_left',Nat.reduceAdd,tk24,s15,a0,a1,a2]
  refine Wo.call hc (by rfl) (by rfl) ⟨by rfl,by rfl⟩ (xs := [(⟨mm2,p2,c2,La2,q2,d2,Lb2⟩ : Las).v]) (by rfl) (by rfl) (by simp only [zAY,zAU,sp_n,Nat.reduceLT,List.map_cons,List.map_nil,List.nil_append,List.append_nil,hn]; rfl) (Con.mono (spoil_off j1.wf (show E2.next ≤ K1.next by have := S2.lt; omega) S2.w1 S2.w2 S2.ln) ?_)
  rintro w K2 j2
  refine Wo.done hc rfl (hK _ _ ?_)
  clear hK a0 a1 a2
  have hK2 := nx_off hK1 j2 (by omega)
  have S3 := S3.off j2 (by omega) (by omega)
  have S4 := S4.off j2 (by omega) (by omega)
  have a0 := S3.c0
  have a1 := S3.c1
  have a2 := S3.c2
  refine Rn.seq hc ?_
  refine Rn.region hc fun K hK => ?_
  refine Wo.run hc 1 rfl rfl rfl ?_
  simp (maxSteps := 2000000) only [List.drop_zero,List.take_succ_cons,List.take_zero,zAY,zAT,ne_eq,Nat.reduceEqDiff,not_false_eq_true,gd,zAX,rops,fx,ld,zAR,cls,Nat.zero_add,Option.some.injEq,exists_eq_left',Nat.reduceAdd,tk24,s19,a0,a1,a2]
  refine Wo.call hc (by rfl) (by rfl) ⟨by rfl,by rfl⟩ (xs := [(⟨mm3,p3,c3,La3,q3,d3,Lb3⟩ : Las).v]) (by rfl) (by rfl) (by simp only [zAY,zAU,sp_n,Nat.reduceLT,List.map_cons,List.map_nil,List.nil_append,List.append_nil,hn]; rfl) (Con.mono (spoil_off j2.wf (show E3.next ≤ K2.next by have := S3.lt; omega) S3.w1 S3.w2 S3.ln) ?_)
  rintro w K3 j3
  refine Wo.done hc rfl (hK _ _ ?_)
  clear hK a0 a1 a2
  have hK3 := nx_off hK2 j3 (by omega)
  have S4 := S4.off j3 (by omega) (by omega)
  have a0 := S4.c0
  have a1 := S4.c1
  have a2 := S4.c2
  refine Rn.seq hc ?_
  refine Rn.region hc fun K hK => ?_
  refine Wo.run hc 1 rfl rfl rfl ?_
  simp (maxSteps := 2000000) only [List.drop_zero,List.take_succ_cons,List.take_zero,zAY,zAT,ne_eq,Nat.reduceEqDiff,not_false_eq_true,gd,zAX,rops,fx,ld,zAR,cls,Nat.zero_add,Option.some.injEq,exists_eq_left',Nat.reduceAdd,tk24,s21,a0,a1,a2]
  refine Wo.call hc (by rfl) (by rfl) ⟨by rfl,by rfl⟩ (xs := [(⟨mm4,p4,c4,La4,q4,d4,Lb4⟩ : Las).v]) (by rfl) (by rfl) (by simp only [zAY,zAU,sp_n,Nat.reduceLT,List.map_cons,List.map_nil,List.nil_append,List.append_nil,hn]; rfl) (Con.mono (spoil_off j3.wf (show E4.next ≤ K3.next by have := S4.lt; omega) S4.w1 S4.w2 S4.ln) ?_)
  rintro w K4 j4
  refine Wo.done hc rfl (hK _ _ ?_)
  clear hK a0 a1 a2
  have hK4 := nx_off hK3 j4 (by omega)
  have hXe := hX.nx hC.wf hK4
  have hYe := hY.nx hC.wf hK4
  have hxe := hx'.nx hC.wf hK4
  have hye := hy'.nx hC.wf hK4
  have X0 := hXe.c0
  have X1 := hXe.c1
  have X2 := hXe.c2
  have g0 := hxe.c0
  have g1 := hxe.c1
  have g2 := hxe.c2
  refine Rn.seq hc ?_
  refine Rn.region hc fun K hK => ?_
  refine Wo.run hc 4 rfl rfl rfl ?_
  simp (maxSteps := 2000000) only [List.drop_zero,List.take_succ_cons,List.take_zero,zAY,zAU,zAT,sp_n,Nat.reduceLT,ne_eq,Nat.reduceEqDiff,not_false_eq_true,gd,nth,zAX,zAQ,beqB,rops,fx,ld,zAR,cls,Nat.zero_add,Option.some.injEq,exists_eq_left',Nat.reduceAdd,tk24,hn,s4,s9,s23,X0,X1,X2,g0,g1,g2]
  refine Wo.call hc (by rfl) (by rfl) ⟨by rfl,by rfl⟩ (xs := [x'.v,x.v]) (by simp only [zAU,zAT,sp_n,Nat.reduceLT,ne_eq,Nat.reduceEqDiff,zNf,gd,nth,zAQ,beqB,hn]) (by rfl) (by simp only [zAY,zAU,zAT,sp_n,Nat.reduceLT,ne_eq,Nat.reduceEqDiff,zNf,List.map_cons,List.map_nil,List.nil_append,List.append_nil,hn]; rfl) (Con.mono (same_true hK4.wf hXe.ok hxe.ok tx) ?_)
  rintro w M1 ⟨rfl,l1⟩
  have hYm := hYe.nx hK4.wf l1
  have hym := hye.nx hK4.wf l1
  have Y0 := hYm.c0
  have Y1 := hYm.c1
  have Y2 := hYm.c2
  have h0 := hym.c0
  have h1 := hym.c1
  have h2 := hym.c2
  refine Wo.run hc 4 rfl rfl rfl ?_
  simp (maxSteps := 2000000) only [List.drop_zero,List.drop_succ_cons,List.take_succ_cons,List.take_zero,zAY,zAU,zAT,sp_n,Nat.reduceLT,ne_eq,Nat.reduceEqDiff,not_false_eq_true,gd,nth,zAX,zAQ,beqB,rops,fx,ld,pck,zAR,cls,Nat.zero_add,Option.some.injEq,exists_eq_left',Nat.reduceAdd,tk24,hn,s5,s10,Y0,Y1,Y2,h0,h1,h2]
  refine Wo.call hc (by rfl) (by rfl) ⟨by rfl,by rfl⟩ (xs := [y'.v,y.v]) (by simp only [zAU,zAT,sp_n,Nat.reduceLT,ne_eq,Nat.reduceEqDiff,zNf,gd,nth,zAQ,beqB,hn]) (by rfl) (by simp only [zAY,zAU,zAT,sp_n,Nat.reduceLT,ne_eq,Nat.reduceEqDiff,zNf,List.map_cons,List.map_nil,List.nil_append,List.append_nil,hn]; rfl) (Con.mono (same_true l1.wf hYm.ok hym.ok ty) ?_)
  rintro w M2 ⟨rfl,l2⟩
  have hCM : Nx C.next C M2 := hK4.trans ((l1.trans (l2.le l1.next)).le hK4.next)
  have hAM : Nx A.next A M2 := hA.trans (hCM.le hA.next)
  refine Wo.run hc 2 rfl rfl rfl ?_
  simp (maxSteps := 2000000) only [List.drop_zero,List.drop_succ_cons,List.take_succ_cons,List.take_zero,zAY,zAU,zAT,sp_n,Nat.reduceLT,ne_eq,Nat.reduceEqDiff,not_false_eq_true,gd,zAX,rops,fx,pck,Option.some.injEq,exists_eq_left',Nat.reduceAdd,hn]
  refine Wo.call hc (by rfl) (by rfl) ⟨by rfl,by rfl⟩ (xs := []) (by simp only [zAU,sp_n,Nat.reduceLT,gd,nth,zAQ,beqB,hn]) (by rfl) (by rfl) (Con.mono (awake_con M2) ?_)
  rintro w M3 ⟨rfl,rfl⟩
  refine Wo.run hc 2 rfl rfl rfl ?_
  simp (maxSteps := 2000000) only [List.drop_zero,List.drop_succ_cons,List.take_succ_cons,List.take_zero,zAY,zAU,zAT,sp_n,Nat.reduceLT,ne_eq,Nat.reduceEqDiff,not_false_eq_true,gd,zAX,rops,fx,pck,Option.some.injEq,exists_eq_left',Nat.reduceAdd,hn]
  refine Wo.done hc rfl (hK _ _ ?_)
  clear hK
  (repeat (first | refine Rn.seq hc ?_ | refine Rn.skip hc ?_ | refine Rn.block hc ?_ | refine Rn.inBlock hc ?_ | refine Rn.scope hc ?_ | refine Rn.inScope hc ?_))
  refine Rn.ret (zAN rfl ⟨?_,hAM⟩)
  simp only [zAU,sp_n,Nat.reduceLT,hn]
theorem law_sums {A : AHeap} (hw : WF A) {m m' by0 sp0 : Int} {sa ra sa' ra' : Option Addr} {sn sc rn rc sn' sc' rn' rc' : Nat} (h1 : Arg A sa sn sc ra rn rc) (h2 : Arg A sa' sn' sc' ra' rn' rc') :
    ConF Try.prog 6 [.agg #[.int .i64 m,.slice sa sn sc,.slice ra rn rc],.agg #[.int .i64 m',.slice sa' sn' sc',.slice ra' rn' rc'],.int .i64 by0,.int .i64 sp0] A (fun w A1 => w = .bool true ∧ Nx A.next A A1) := by
  refine conF_of_rn hc Try.func6 rfl (Nat.le_of_ble_eq_true rfl) ?_
  obtain ⟨A1,e1,hx1,hn1,b0,b1,b2⟩ := box3 hw (.int .i64 m) (.slice sa sn sc) (.slice ra rn rc) 24
  obtain ⟨A2,e2,hx2,hn2,c0,c1,c2⟩ := box3 hx1.wf (.int .i64 m') (.slice sa' sn' sc') (.slice ra' rn' rc') 24
  have hx02 : Nx A.next A A2 := hx1.trans (hx2.le hx1.next)
  have b0 := (hx2.cl (show A.next < A1.next by omega) 0).trans b0
  have b1 := (hx2.cl (show A.next < A1.next by omega) 1).trans b1
  have b2 := (hx2.cl (show A.next < A1.next by omega) 2).trans b2
  rw [s_in4]
  refine Rn.seq hc ?_
  refine Rn.reg hc rfl ?_
  simp only [zAY,zAS,zAU,zAT,sp_n,Nat.reduceLT,ne_eq,Nat.reduceEqDiff,zNf,gd,zAX,rops,fx,zOi,zEl,Value.cells,show Try.f6.ntmps = 143 from rfl,e1,e2]
  refine Rn.seq hc ?_
  refine Rn.seq hc ?_
  refine Rn.region hc fun K hK => ?_
  refine Wo.run hc 1 rfl rfl rfl ?_
  simp (maxSteps := 2000000) only [List.drop_zero,List.take_succ_cons,List.take_zero,zAY,zAU,zAT,sp_n,Nat.reduceLT,ne_eq,Nat.reduceEqDiff,not_false_eq_true,gd,zAX,rops,fx,ld,zAR,cls,Nat.zero_add,Option.some.injEq,exists_eq_left',Nat.reduceAdd,tk24,b0,b1,b2]
  refine Wo.call hc (by rfl) (by rfl) ⟨by rfl,by rfl⟩ (xs := [.agg #[.int .i64 m,.slice sa sn sc,.slice ra rn rc]]) (by rfl) (by rfl) (by rfl) (Con.mono (great_lasso hx2.wf m sa ra sn rn sc rc) ?_)
  rintro w A3 ⟨rfl,hx3⟩
  have hx03 : Nx A.next A A3 := hx02.trans (hx3.le hx02.next)
  have c0 := (hx3.cl (show A1.next < A2.next by omega) 0).trans c0
  have c1 := (hx3.cl (show A1.next < A2.next by omega) 1).trans c1
  have c2 := (hx3.cl (show A1.next < A2.next by omega) 2).trans c2
  have n13 : A1.next < A3.next := by have := hx3.next; omega
  by_cases hg : 70 < sn ∨ 130 < rn
  · have hd : (decide ((70 : Int) < sn) || decide ((130 : Int) < rn)) = true := by simp; omega
    refine Wo.run hc 4 rfl rfl rfl ?_
    simp (maxSteps := 2000000) only [List.drop_zero,List.drop_succ_cons,List.take_succ_cons,List.take_zero,zAY,zAS,zAU,zAT,sp_n,Nat.reduceLT,ne_eq,Nat.reduceEqDiff,not_false_eq_true,gd,nth,zAX,zAQ,beqB,rops,fx,pck,Option.some.injEq,exists_eq_left',Nat.reduceAdd,hd]
    refine Wo.done hc rfl (hK _ _ ?_)
    clear hK
    (repeat (first | refine Rn.seq hc ?_ | refine Rn.skip hc ?_ | refine Rn.block hc ?_ | refine Rn.inBlock hc ?_ | refine Rn.scope hc ?_ | refine Rn.inScope hc ?_))
    refine Rn.zAL hc rfl ?_
    simp only [zAY,zAU,sp_n,Nat.reduceLT,Value.bool.injEq,zEl]
    (repeat (first | refine Rn.seq hc ?_ | refine Rn.skip hc ?_ | refine Rn.block hc ?_ | refine Rn.inBlock hc ?_ | refine Rn.scope hc ?_ | refine Rn.inScope hc ?_))
    refine Rn.region hc fun K hK => ?_
    refine Wo.call hc (by rfl) (by rfl) ⟨by rfl,by rfl⟩ (xs := []) (by rfl) (by rfl) (by rfl) (Con.mono (awake_con A3) ?_)
    rintro w B3 ⟨rfl,rfl⟩
    refine Wo.run hc 1 rfl rfl rfl ?_
    simp (maxSteps := 2000000) only [List.drop_zero,List.drop_succ_cons,List.take_succ_cons,List.take_zero,zAY,zAU,sp_n,Nat.reduceLT,gd,zAX,rops,fx,Nat.zero_add,Option.some.injEq,exists_eq_left',Nat.reduceAdd]
    refine Wo.done hc rfl (hK _ _ ?_)
    clear hK
    (repeat (first | refine Rn.seq hc ?_ | refine Rn.skip hc ?_ | refine Rn.block hc ?_ | refine Rn.inBlock hc ?_ | refine Rn.scope hc ?_ | refine Rn.inScope hc ?_))
    exact Rn.ret (zAN rfl ⟨by simp only [zAU,sp_n,Nat.reduceLT],hx03⟩)
  · have hd : (decide ((70 : Int) < sn) || decide ((130 : Int) < rn)) = false := by simp; omega
    refine Wo.run hc 2 rfl rfl rfl ?_
    simp (maxSteps := 2000000) only [List.drop_zero,List.drop_succ_cons,List.take_succ_cons,List.take_zero,zAY,zAU,zAT,sp_n,Nat.reduceLT,ne_eq,Nat.reduceEqDiff,not_false_eq_true,gd,nth,zAX,zAQ,beqB,rops,fx,ld,zAR,cls,Nat.zero_add,Option.some.injEq,exists_eq_left',Nat.reduceAdd,tk24,hd,c0,c1,c2]
    refine Wo.call hc (by rfl) (by rfl) ⟨by rfl,by rfl⟩ (xs := [.agg #[.int .i64 m',.slice sa' sn' sc',.slice ra' rn' rc']]) (by rfl) (by rfl) (by rfl) (Con.mono (great_lasso hx3.wf m' sa' ra' sn' rn' sc' rc') ?_)
    rintro w A4 ⟨rfl,hx4⟩
    have hx04 : Nx A.next A A4 := hx03.trans (hx4.le hx03.next)
    by_cases hg2 : 70 < sn' ∨ 130 < rn'
    · have hd2 : (decide ((70 : Int) < sn') || decide ((130 : Int) < rn')) = true := by simp; omega
      refine Wo.run hc 1 rfl rfl rfl ?_
      simp (maxSteps := 2000000) only [List.drop_zero,List.drop_succ_cons,List.take_succ_cons,List.take_zero,zAY,zAU,zAT,sp_n,Nat.reduceLT,ne_eq,Nat.reduceEqDiff,not_false_eq_true,gd,zAX,rops,fx,pck,Option.some.injEq,exists_eq_left',Nat.reduceAdd,hd2]
      refine Wo.done hc rfl (hK _ _ ?_)
      clear hK
      (repeat (first | refine Rn.seq hc ?_ | refine Rn.skip hc ?_ | refine Rn.block hc ?_ | refine Rn.inBlock hc ?_ | refine Rn.scope hc ?_ | refine Rn.inScope hc ?_))
      refine Rn.zAL hc rfl ?_
      simp only [zAY,zAU,sp_n,Nat.reduceLT,Value.bool.injEq,zEl]
      (repeat (first | refine Rn.seq hc ?_ | refine Rn.skip hc ?_ | refine Rn.block hc ?_ | refine Rn.inBlock hc ?_ | refine Rn.scope hc ?_ | refine Rn.inScope hc ?_))
      refine Rn.region hc fun K hK => ?_
      refine Wo.call hc (by rfl) (by rfl) ⟨by rfl,by rfl⟩ (xs := []) (by rfl) (by rfl) (by rfl) (Con.mono (awake_con A4) ?_)
      rintro w B3 ⟨rfl,rfl⟩
      refine Wo.run hc 1 rfl rfl rfl ?_
      simp (maxSteps := 2000000) only [List.drop_zero,List.drop_succ_cons,List.take_succ_cons,List.take_zero,zAY,zAU,sp_n,Nat.reduceLT,gd,zAX,rops,fx,Nat.zero_add,Option.some.injEq,exists_eq_left',Nat.reduceAdd]
      refine Wo.done hc rfl (hK _ _ ?_)
      clear hK
      (repeat (first | refine Rn.seq hc ?_ | refine Rn.skip hc ?_ | refine Rn.block hc ?_ | refine Rn.inBlock hc ?_ | refine Rn.scope hc ?_ | refine Rn.inScope hc ?_))
      exact Rn.ret (zAN rfl ⟨by simp only [zAU,sp_n,Nat.reduceLT],hx04⟩)
    · have hd2 : (decide ((70 : Int) < sn') || decide ((130 : Int) < rn')) = false := by simp; omega
      refine Wo.run hc 1 rfl rfl rfl ?_
      simp (maxSteps := 2000000) only [List.drop_zero,List.drop_succ_cons,List.take_succ_cons,List.take_zero,zAY,zAU,zAT,sp_n,Nat.reduceLT,ne_eq,Nat.reduceEqDiff,not_false_eq_true,gd,zAX,rops,fx,pck,Option.some.injEq,exists_eq_left',Nat.reduceAdd,hd2]
      refine Wo.done hc rfl (hK _ _ ?_)
      clear hK
      refine Rn.zAL hc rfl ?_
      simp only [zAY,zAU,sp_n,Nat.reduceLT,Value.bool.injEq,zEl]
      refine Rn.skip hc ?_
      obtain ⟨st,ro,rfl,rfl,q1,q2,q3,q4,q5,q6⟩ := h1 (by omega) (by omega)
      obtain ⟨st',ro',rfl,rfl,r1,r2,r3,r4,r5,r6⟩ := h2 (by omega) (by omega)
      have hx24 : Nx A2.next A2 A4 := hx3.trans (hx4.le hx3.next)
      have b0 := (hx24.cl (show A.next < A2.next by omega) 0).trans b0
      have b1 := (hx24.cl (show A.next < A2.next by omega) 1).trans b1
      have b2 := (hx24.cl (show A.next < A2.next by omega) 2).trans b2
      have c0 := (hx4.cl n13 0).trans c0
      have c1 := (hx4.cl n13 1).trans c1
      have c2 := (hx4.cl n13 2).trans c2
      have n4 := hx4.next
      have hX : Has A4 A.next ⟨m,sa,sc,st,ra,rc,ro⟩ :=
        { c0 := b0,c1 := b1,c2 := b2,ok := ⟨(q1.nx hx04 (Nat.le_refl _)).mono (Nat.le_refl _) hx04.next,(q2.nx hx04 (Nat.le_refl _)).mono (Nat.le_refl _) hx04.next,show st.length < _ by omega,show ro.length < _ by omega⟩,lt := by omega,ls := show st.length ≤ 70 by omega,lr := show ro.length ≤ 130 by omega,cs := q3,cr := q4,s1 := fun h => (q5 h).nx hw hx04,s2 := fun h => (q6 h).nx hw hx04 }
      have hY : Has A4 A1.next ⟨m',sa',sc',st',ra',rc',ro'⟩ :=
        { c0 := c0,c1 := c1,c2 := c2,ok := ⟨(r1.nx hx04 (Nat.le_refl _)).mono (Nat.le_refl _) hx04.next,(r2.nx hx04 (Nat.le_refl _)).mono (Nat.le_refl _) hx04.next,show st'.length < _ by omega,show ro'.length < _ by omega⟩,lt := by omega,ls := show st'.length ≤ 70 by omega,lr := show ro'.length ≤ 130 by omega,cs := r3,cr := r4,s1 := fun h => (r5 h).nx hw hx04,s2 := fun h => (r6 h).nx hw hx04 }
      refine sums_own hx04 hX hY (by0 := by0) (sp0 := sp0) (by simp only [sp_n]) (by simp only [zAU,zAT,sp_n,Nat.reduceLT,ne_eq,Nat.reduceEqDiff,zNf]) (by simp only [zAU,zAT,sp_n,Nat.reduceLT,ne_eq,Nat.reduceEqDiff,zNf]) (by simp only [zAU,zAT,sp_n,Nat.reduceLT,ne_eq,Nat.reduceEqDiff,zNf]) (by simp only [zAU,zAT,sp_n,Nat.reduceLT,ne_eq,Nat.reduceEqDiff,zNf]) fun s C bx by' x' y' hC hx' hy' tx ty sx _ hn s2 s3 s4 s5 s9 s10 => ?_
      exact sums_rest (hx04.trans (hC.le hx04.next)) (hX.nx hx04.wf hC) (hY.nx hx04.wf hC) hx' hy' tx ty hn s2 s3 s4 s5 s9 s10
end Go.Proofs.Ytdaljohmfnfgiaa
namespace Go.Proofs.Ytdaljohmfnfgiaa
open Go.ChangeShapes Go.WideShapes Go.ChangeAt Go.RowKit Go.Proofs.Ytdaljohmfnfgiaa.Canon
open Go.Deep (open_slice_pairs open_slice)
set_option maxRecDepth 100000 in
theorem ints_room {H : Type} {enc : TypeId × Value → H} {w : World} {base : Nat} {sp : Nat → Bool} {hd : Bool} {fuel : Nat} {a : Option Addr} {n c : Nat} {x : DataW H × List MemPlace}
    (h : DataW.trod enc Try.prog w base sp hd fuel 22 [.slice a n c] = some x) : n ≤ c := by
  rcases open_ints Try.underlying22 Try.underlying3 Try.cells3 h with ⟨h1,_⟩ | ⟨a1,len,cap,zs,h1,_,hlc,_,_,_,_,_⟩
  · simp only [List.cons.injEq,Value.slice.injEq,and_true] at h1
    obtain ⟨rfl,rfl,rfl⟩ := h1
    exact Nat.le_refl _
  · simp only [List.cons.injEq,Value.slice.injEq,and_true] at h1
    obtain ⟨rfl,rfl,rfl⟩ := h1
    exact hlc
set_option maxRecDepth 100000 in
theorem lasso_room {H : Type} {enc : TypeId × Value → H} {w : World} {base : Nat} {sp : Nat → Bool} {hd : Bool} {m : Int} {sa ra : Option Addr} {sn sc rn rc : Nat} {d : DataW H} {ps : List MemPlace}
    (h : DataW.Trod enc Try.prog w base sp hd 24 (.agg #[.int .i64 m,.slice sa sn sc,.slice ra rn rc]) d ps) : sn ≤ sc ∧ rn ≤ rc := by
  obtain ⟨fuel,hf⟩ := h
  obtain ⟨xs,k,_,_,_,hlen,hfs⟩ := DataW.trod_struct Try.underlying24 hf
  have f1 := hfs 1 { name := "Stem",type := 22,offset := 1,embedded := false,tag := "",pkgPath := "",byteOffset := 8 } rfl
  have f2 := hfs 2 { name := "Round",type := 22,offset := 2,embedded := false,tag := "",pkgPath := "",byteOffset := 32 } rfl
  obtain ⟨y1,hy1⟩ : ∃ y,xs[1]? = some y := ⟨_,List.getElem?_eq_getElem (by rw [hlen]; decide)⟩
  obtain ⟨y2,hy2⟩ : ∃ y,xs[2]? = some y := ⟨_,List.getElem?_eq_getElem (by rw [hlen]; decide)⟩
  rw [hy1] at f1
  rw [hy2] at f2
  simp only [Try.cells22] at f1 f2
  exact ⟨ints_room f1,ints_room f2⟩
end Go.Proofs.Ytdaljohmfnfgiaa
