/- LassoScannedSaid: the law returns true for every input, and each argument reads afterwards as it read before. No condition. -/
import Derived.Test.YtdaljohmfnfgiaaXb
import Derived.Shelf.Spec.SlicesGrow
namespace Go.Proofs.Ytdaljohmfnfgiaa
open Go Go.RowKit Go.Proofs.Ytdaljohmfnfgiaa.Canon
set_option maxRecDepth 20000
theorem scd_look (hcons : ConsOK) {A B : AHeap} (hA : Nx A.next A B) {bA bY : Nat} {x y : Las} (hX : Hs B bA x) (hY : Hs B bY y) (hxe : x.err = 0) (hye : y.err = 0) (hym : y.m = x.m) {step n : Nat} (hs : 1 ≤ step ∧ step ≤ 8) (hn16 : n < 65536) (hys : y.s = scn x.m x.s step)
    {s : Slots} (hn : s.n = 138) (s2 : sget s 2 = .int .u16 (n : Int)) (s8 : sget s 8 = .int .i64 x.m) (s9 : sget s 9 = .pointer (some ⟨bA,0,none⟩)) (s10 : sget s 10 = .int .i64 (step : Int)) (s11 : sget s 11 = .pointer (some ⟨bY,0,none⟩)) :
    Rn Try.prog 12 none [.code (restN 8 (Try.f12.body.getD .skip))] s [] B (endQ Try.prog Try.f12 (fun w A1 => w = .bool true ∧ Nx A.next A A1)) := by
  obtain ⟨⟨xm1,xm2⟩,xl⟩ := err_lim hxe
  obtain ⟨x1,x2,x3⟩ := err_len hxe
  obtain ⟨y1,y2,y3⟩ := err_len hye
  have nB := hA.next
  refine Rn.seq hc ?_
  (repeat (first | refine Rn.seq hc ?_ | refine Rn.skip hc ?_ | refine Rn.block hc ?_ | refine Rn.inBlock hc ?_ | refine Rn.scope hc ?_ | refine Rn.inScope hc ?_))
  refine Rn.reg hc rfl ?_
  simp only [zAY,zAS,gd,zAX,rops,fx,zOi,zEl,s10]
  (repeat (first | refine Rn.seq hc ?_ | refine Rn.skip hc ?_ | refine Rn.block hc ?_ | refine Rn.inBlock hc ?_ | refine Rn.scope hc ?_ | refine Rn.inScope hc ?_))
  refine Rn.loopI hc (I := fun k s D => ∃ j : Nat,j ≤ step ∧ k = step - j ∧ Nx B.next B D ∧ s.n = 138 ∧ sget s 2 = .int .u16 (n : Int) ∧ sget s 8 = .int .i64 x.m ∧ sget s 9 = .pointer (some ⟨bA,0,none⟩) ∧ sget s 10 = .int .i64 (step : Int) ∧ sget s 11 = .pointer (some ⟨bY,0,none⟩) ∧ sget s 56 = .int .i64 (step : Int) ∧ sget s 57 = .int .i64 (j : Int))
    (n := step) ⟨0,by omega,rfl,Nx.refl hA.wf _,by simp only [sp_n,hn],by simp only [zAT,ne_eq,Nat.reduceEqDiff,zNf,s2],by simp only [zAT,ne_eq,Nat.reduceEqDiff,zNf,s8],by simp only [zAT,ne_eq,Nat.reduceEqDiff,zNf,s9],by simp only [zAT,ne_eq,Nat.reduceEqDiff,zNf,s10],by simp only [zAT,ne_eq,Nat.reduceEqDiff,zNf,s11],by simp only [zAU,zAT,Nat.reduceLT,ne_eq,Nat.reduceEqDiff,zNf,hn],by simp only [zAU,sp_n,Nat.reduceLT,hn]; rfl⟩ ?_
  clear hn s2 s8 s9 s10 s11 s
  rintro k s D ⟨j,hj,rfl,hD,hn,s2,s8,s9,s10,s11,s56,s57⟩ ih
  have nD := hD.next
  have hXD := hX.nx hD
  have hYD := hY.nx hD
  have lX := hXD.lt
  have lY := hYD.lt
  obtain ⟨F,hFb,hF⟩ : ∃ F : AHeap → Prop,(∀ M,F M → ∀ b,b < D.next → ∀ o,cl M b o = cl D b o) ∧ (∀ M,Nx D.next D M → F M) := ⟨fun M => Nx D.next D M,fun M h b hb o => h.cl hb o,fun _ h => h⟩
  have X0 := fun M hM => (hFb M hM _ lX 0).trans hXD.c0
  have X1 := fun M hM => (hFb M hM _ lX 1).trans hXD.c1
  have X2 := fun M hM => (hFb M hM _ lX 2).trans hXD.c2
  have Y0 := fun M hM => (hFb M hM _ lY 0).trans hYD.c0
  have Y1 := fun M hM => (hFb M hM _ lY 1).trans hYD.c1
  have Y2 := fun M hM => (hFb M hM _ lY 2).trans hYD.c2
  (repeat (first | refine Rn.seq hc ?_ | refine Rn.skip hc ?_ | refine Rn.block hc ?_ | refine Rn.inBlock hc ?_ | refine Rn.scope hc ?_ | refine Rn.inScope hc ?_))
  by_cases hlt : j < step
  · have hd : decide ((j : Int) < (step : Int)) = true := decide_eq_true (by omega)
    have hfirst : y.s j = x.s j := by rw [hys]; exact scn_first (by omega) xl hlt
    have hbk : Nx D.next D (bump D 7) := Nx.bump (Nx.refl hD.wf _) 7
    have FB := hF _ hbk
    have okY := hYD.ok.nx hbk
    refine Rn.reg hc rfl ?_
    simp only [zAY,gd,zAX,rops,fx,zAP,zOi,zEl,s56,s57,hd]
    (repeat (first | refine Rn.seq hc ?_ | refine Rn.skip hc ?_ | refine Rn.block hc ?_ | refine Rn.inBlock hc ?_ | refine Rn.scope hc ?_ | refine Rn.inScope hc ?_))
    refine Rn.zAI hc rfl ?_
    simp only [zAY,zAU,Nat.reduceLT,Value.bool.injEq,zEl,hn]
    (repeat (first | refine Rn.seq hc ?_ | refine Rn.skip hc ?_ | refine Rn.block hc ?_ | refine Rn.inBlock hc ?_ | refine Rn.scope hc ?_ | refine Rn.inScope hc ?_))
    refine Rn.reg hc rfl ?_
    simp only [zAY,zAU,zAT,sp_n,Nat.reduceLT,ne_eq,Nat.reduceEqDiff,zNf,gd,zAX,rops,fx,zOi,zEl,hn,s57]
    (repeat (first | refine Rn.seq hc ?_ | refine Rn.skip hc ?_ | refine Rn.block hc ?_ | refine Rn.inBlock hc ?_ | refine Rn.scope hc ?_ | refine Rn.inScope hc ?_))
    refine Rn.drawnF hc hx scS F (n := 2) (k := 7) (by kernel_rfl) (by kernel_rfl) (by rfl) ?_
    refine Dr.read (by first | rfl | kernel_rfl) (by rfl) (by assumption) (fun M hM => by simp only [zAY,zAT,ne_eq,Nat.reduceEqDiff,zNf,fx,ld,zAR,cls,Nat.zero_add,Nat.reduceAdd,tk24,s11,Y0 M hM,Y1 M hM,Y2 M hM] <;> rfl) (by rfl) (by first | exact VQ.int _ _ | exact VQ.bool _ | exact VQ.ptr _ _ | exact VQ.slice _ _ _ | exact VQ.func (by simp [zAW,zAV,zAZ]) (by simp [zAW,zAV,zAZ]) | exact VQ.agg (by simp [zAW,zAZ]) | exact VQ.tuple (by simp [zAW,zAV,zAZ])) ?_
    refine Dr.read (by first | rfl | kernel_rfl) (by rfl) (by assumption) (fun M hM => by simp only [zAY,zAU,zAT,sp_n,Nat.reduceLT,ne_eq,Nat.reduceEqDiff,zNf,fx,hn] <;> rfl) (by rfl) (by first | exact VQ.int _ _ | exact VQ.bool _ | exact VQ.ptr _ _ | exact VQ.slice _ _ _ | exact VQ.func (by simp [zAW,zAV,zAZ]) (by simp [zAW,zAV,zAZ]) | exact VQ.agg (by simp [zAW,zAV,zAZ]) | exact VQ.tuple (by simp [zAW,zAV,zAZ])) ?_
    refine Dr.call (by kernel_rfl) (by rfl) (by assumption) (by rfl) (zAC (by rfl) ⟨by rfl,by rfl⟩ (by rfl) (xs := [y.v,.int .i64 (j : Int)]) (by simp only [zAY,zAU,zAT,sp_n,Nat.reduceLT,ne_eq,Nat.reduceEqDiff,zNf,List.map_cons,List.map_nil,List.nil_append,List.append_nil,hn,Las.v]) (at_S hbk.wf okY j y3 (by omega))) ?_
    rintro v M1 ⟨hv,k1⟩
    obtain rfl := hv _ _ _ _ _ _ _ _ rfl okY.1 okY.2.1
    have hM1 : Nx D.next D M1 := hbk.trans (k1.le hbk.next)
    have F1 := hF _ hM1
    have okX := hXD.ok.nx hM1
    rw [show atL y.st y.ro j = x.s j from hfirst]
    refine Dr.read (by first | rfl | kernel_rfl) (by rfl) (by assumption) (fun M hM => by simp only [zAY,zAT,ne_eq,Nat.reduceEqDiff,zNf,fx,ld,zAR,cls,Nat.zero_add,Nat.reduceAdd,tk24,s9,X0 M hM,X1 M hM,X2 M hM] <;> rfl) (by rfl) (by first | exact VQ.int _ _ | exact VQ.bool _ | exact VQ.ptr _ _ | exact VQ.slice _ _ _ | exact VQ.func (by simp [zAW,zAV,zAZ]) (by simp [zAW,zAV,zAZ]) | exact VQ.agg (by simp [zAW,zAZ]) | exact VQ.tuple (by simp [zAW,zAV,zAZ])) ?_
    refine Dr.read (by first | rfl | kernel_rfl) (by rfl) (by assumption) (fun M hM => by simp only [zAY,zAU,zAT,sp_n,Nat.reduceLT,ne_eq,Nat.reduceEqDiff,zNf,fx,hn] <;> rfl) (by rfl) (by first | exact VQ.int _ _ | exact VQ.bool _ | exact VQ.ptr _ _ | exact VQ.slice _ _ _ | exact VQ.func (by simp [zAW,zAV,zAZ]) (by simp [zAW,zAV,zAZ]) | exact VQ.agg (by simp [zAW,zAV,zAZ]) | exact VQ.tuple (by simp [zAW,zAV,zAZ])) ?_
    refine Dr.call (by kernel_rfl) (by rfl) (by assumption) (by rfl) (zAC (by rfl) ⟨by rfl,by rfl⟩ (by rfl) (xs := [x.v,.int .i64 (j : Int)]) (by simp only [zAY,zAU,zAT,sp_n,Nat.reduceLT,ne_eq,Nat.reduceEqDiff,zNf,List.map_cons,List.map_nil,List.nil_append,List.append_nil,hn,Las.v]) (at_S hM1.wf okX j x3 (by omega))) ?_
    rintro v M2 ⟨hv,k2⟩
    obtain rfl := hv _ _ _ _ _ _ _ _ rfl okX.1 okX.2.1
    have hM2 : Nx D.next D M2 := hM1.trans (k2.le hM1.next)
    have F2 := hF _ hM2
    rw [show atL x.st x.ro j = x.s j from rfl]
    refine Dr.read (by first | rfl | kernel_rfl) (by rfl) (by assumption) (fun M hM => by simp only [zAY,zAU,zAT,sp_n,Nat.reduceLT,ne_eq,Nat.reduceEqDiff,zNf,fx,zBP,Bool.not_true,Bool.not_true,hn,eq_self,decide_true,Bool.not_true] <;> rfl) (by rfl) (by first | exact VQ.int _ _ | exact VQ.bool _ | exact VQ.ptr _ _ | exact VQ.slice _ _ _ | exact VQ.func (by simp [zAW,zAV,zAZ]) (by simp [zAW,zAV,zAZ]) | exact VQ.agg (by simp [zAW,zAV,zAZ]) | exact VQ.tuple (by simp [zAW,zAV,zAZ])) ?_
    refine Dr.nil (by rfl) (fun M hM => by cases hM) F2 ⟨M2,by rfl,?_⟩
    (repeat (first | refine Rn.seq hc ?_ | refine Rn.skip hc ?_ | refine Rn.block hc ?_ | refine Rn.inBlock hc ?_ | refine Rn.scope hc ?_ | refine Rn.inScope hc ?_))
    refine Rn.zAI hc rfl ?_
    simp only [zAY,zAU,sp_n,Nat.reduceLT,Value.bool.injEq,zEl,hn]
    (repeat (first | refine Rn.seq hc ?_ | refine Rn.skip hc ?_ | refine Rn.block hc ?_ | refine Rn.inBlock hc ?_ | refine Rn.scope hc ?_ | refine Rn.inScope hc ?_))
    refine Rn.reg hc rfl ?_
    simp only [zAY,zAS,zAU,zAT,sp_n,Nat.reduceLT,ne_eq,Nat.reduceEqDiff,zNf,gd,zAX,rops,fx,zAE,zOi,zEl,hn,s57,zBY (show j < 9223372036854775807 by omega)]
    (repeat (first | refine Rn.seq hc ?_ | refine Rn.skip hc ?_ | refine Rn.block hc ?_ | refine Rn.inBlock hc ?_ | refine Rn.scope hc ?_ | refine Rn.inScope hc ?_))
    exact ih _ _ _ (by omega) ⟨j + 1,by omega,rfl,hD.trans (hM2.le nD),by simp only [sp_n,hn],by simp only [zAT,ne_eq,Nat.reduceEqDiff,zNf,s2],by simp only [zAT,ne_eq,Nat.reduceEqDiff,zNf,s8],by simp only [zAT,ne_eq,Nat.reduceEqDiff,zNf,s9],by simp only [zAT,ne_eq,Nat.reduceEqDiff,zNf,s10],by simp only [zAT,ne_eq,Nat.reduceEqDiff,zNf,s11],by simp only [zAT,ne_eq,Nat.reduceEqDiff,zNf,s56],by simp only [zAU,sp_n,Nat.reduceLT,hn]⟩
  · have hd : decide ((j : Int) < (step : Int)) = false := decide_eq_false (by omega)
    clear ih
    refine Rn.reg hc rfl ?_
    simp only [zAY,gd,zAX,rops,fx,zAP,zOi,zEl,s56,s57,hd]
    (repeat (first | refine Rn.seq hc ?_ | refine Rn.skip hc ?_ | refine Rn.block hc ?_ | refine Rn.inBlock hc ?_ | refine Rn.scope hc ?_ | refine Rn.inScope hc ?_))
    refine Rn.zAI hc rfl ?_
    simp only [zAY,zAU,Nat.reduceLT,Value.bool.injEq,zEl,hn]
    (repeat (first | refine Rn.seq hc ?_ | refine Rn.skip hc ?_ | refine Rn.block hc ?_ | refine Rn.inBlock hc ?_ | refine Rn.scope hc ?_ | refine Rn.inScope hc ?_))
    refine Rn.exit hc rfl ?_
    (repeat (first | refine Rn.seq hc ?_ | refine Rn.skip hc ?_ | refine Rn.block hc ?_ | refine Rn.inBlock hc ?_ | refine Rn.scope hc ?_ | refine Rn.inScope hc ?_))
    have hw1 : IntKind.i64.wrap ((n : Int) + (step : Int)) = ((n + step : Nat) : Int) := by rw [IntWalk.i64_in _ (by omega)]; omega
    have hw2 : IntKind.i64.wrap (((n + step : Nat) : Int) - (step : Int)) = (n : Int) := by rw [IntWalk.i64_in _ (by omega)]; omega
    have yl : ∀ n,0 ≤ y.s n ∧ y.s n < x.m := fun n => by rw [hys]; exact scn_lim (by omega) n
    have yl1 := yl (n + step)
    have yl2 := yl n
    have hw3 : IntKind.i64.wrap (y.s (n + step) - y.s n) = y.s (n + step) - y.s n := IntWalk.i64_in _ ⟨by omega,by omega⟩
    have hback : (y.s (n + step) - y.s n) % x.m = x.s (n + step) := by rw [hys]; exact scn_back (by omega) xl n
    have hbk : Nx D.next D (bump D 15) := Nx.bump (Nx.refl hD.wf _) 15
    have FB := hF _ hbk
    have okY := hYD.ok.nx hbk
    refine Rn.reg hc rfl ?_
    simp only [zAY,zAU,zAT,sp_n,Nat.reduceLT,ne_eq,Nat.reduceEqDiff,zNf,gd,zAX,rops,fx,zAE,zOi,zEl,ae_cv,hn,s2,s10,cv643 hn16,hw1]
    (repeat (first | refine Rn.seq hc ?_ | refine Rn.skip hc ?_ | refine Rn.block hc ?_ | refine Rn.inBlock hc ?_ | refine Rn.scope hc ?_ | refine Rn.inScope hc ?_))
    refine Rn.slots (I := fun s => s.n = 138 ∧ sget s 8 = .int .i64 x.m ∧ sget s 9 = .pointer (some ⟨bA,0,none⟩) ∧ sget s 10 = .int .i64 (step : Int) ∧ sget s 11 = .pointer (some ⟨bY,0,none⟩) ∧ sget s 14 = .int .i64 ((n + step : Nat) : Int))
      ⟨by simp only [sp_n,hn],by simp only [zAT,ne_eq,Nat.reduceEqDiff,zNf,s8],by simp only [zAT,ne_eq,Nat.reduceEqDiff,zNf,s9],by simp only [zAT,ne_eq,Nat.reduceEqDiff,zNf,s10],by simp only [zAT,ne_eq,Nat.reduceEqDiff,zNf,s11],by simp only [zAU,sp_n,Nat.reduceLT,hn]⟩ ?_
    clear hn s2 s8 s9 s10 s11 s56 s57 s hd
    rintro s ⟨hn,s8,s9,s10,s11,s14⟩
    refine Rn.drawnF hc hx scS F (n := 4) (k := 15) (by kernel_rfl) (by kernel_rfl) (by rfl) ?_
    refine Dr.read (by first | rfl | kernel_rfl) (by rfl) (by assumption) (fun M hM => by simp only [zAY,fx,ld,zAR,cls,Nat.zero_add,Nat.reduceAdd,tk24,s11,Y0 M hM,Y1 M hM,Y2 M hM] <;> rfl) (by rfl) (by first | exact VQ.int _ _ | exact VQ.bool _ | exact VQ.ptr _ _ | exact VQ.slice _ _ _ | exact VQ.func (by simp [zAW,zAV,zAZ]) (by simp [zAW,zAV,zAZ]) | exact VQ.agg (by simp [zAW,zAZ]) | exact VQ.tuple (by simp [zAW,zAV,zAZ])) ?_
    refine Dr.read (by first | rfl | kernel_rfl) (by rfl) (by assumption) (fun M hM => by simp only [zAY,zAT,ne_eq,Nat.reduceEqDiff,zNf,fx,s14] <;> rfl) (by rfl) (by first | exact VQ.int _ _ | exact VQ.bool _ | exact VQ.ptr _ _ | exact VQ.slice _ _ _ | exact VQ.func (by simp [zAW,zAV,zAZ]) (by simp [zAW,zAV,zAZ]) | exact VQ.agg (by simp [zAW,zAV,zAZ]) | exact VQ.tuple (by simp [zAW,zAV,zAZ])) ?_
    refine Dr.call (by kernel_rfl) (by rfl) (by assumption) (by rfl) (zAC (by rfl) ⟨by rfl,by rfl⟩ (by rfl) (xs := [y.v,.int .i64 ((n + step : Nat) : Int)]) (by simp only [zAY,zAU,zAT,sp_n,Nat.reduceLT,ne_eq,Nat.reduceEqDiff,zNf,List.map_cons,List.map_nil,List.nil_append,List.append_nil,hn,Las.v]) (at_S hbk.wf okY (n + step) y3 (by omega))) ?_
    rintro v M1 ⟨hv,k1⟩
    obtain rfl := hv _ _ _ _ _ _ _ _ rfl okY.1 okY.2.1
    have hM1 : Nx D.next D M1 := hbk.trans (k1.le hbk.next)
    have F1 := hF _ hM1
    have okY1 := hYD.ok.nx hM1
    rw [show atL y.st y.ro (n + step) = y.s (n + step) from rfl]
    refine Dr.read (by first | rfl | kernel_rfl) (by rfl) (by assumption) (fun M hM => by simp only [zAY,zAT,ne_eq,Nat.reduceEqDiff,zNf,fx,ld,zAR,cls,Nat.zero_add,Nat.reduceAdd,tk24,s11,Y0 M hM,Y1 M hM,Y2 M hM] <;> rfl) (by rfl) (by first | exact VQ.int _ _ | exact VQ.bool _ | exact VQ.ptr _ _ | exact VQ.slice _ _ _ | exact VQ.func (by simp [zAW,zAV,zAZ]) (by simp [zAW,zAV,zAZ]) | exact VQ.agg (by simp [zAW,zAZ]) | exact VQ.tuple (by simp [zAW,zAV,zAZ])) ?_
    refine Dr.read (by first | rfl | kernel_rfl) (by rfl) (by assumption) (fun M hM => by simp only [zAY,zAT,ne_eq,Nat.reduceEqDiff,zNf,fx,s14] <;> rfl) (by rfl) (by first | exact VQ.int _ _ | exact VQ.bool _ | exact VQ.ptr _ _ | exact VQ.slice _ _ _ | exact VQ.func (by simp [zAW,zAV,zAZ]) (by simp [zAW,zAV,zAZ]) | exact VQ.agg (by simp [zAW,zAV,zAZ]) | exact VQ.tuple (by simp [zAW,zAV,zAZ])) ?_
    refine Dr.read (by first | rfl | kernel_rfl) (by rfl) (by assumption) (fun M hM => by simp only [zAY,zAT,ne_eq,Nat.reduceEqDiff,zNf,fx,s10] <;> rfl) (by rfl) (by first | exact VQ.int _ _ | exact VQ.bool _ | exact VQ.ptr _ _ | exact VQ.slice _ _ _ | exact VQ.func (by simp [zAW,zAV,zAZ]) (by simp [zAW,zAV,zAZ]) | exact VQ.agg (by simp [zAW,zAV,zAZ]) | exact VQ.tuple (by simp [zAW,zAV,zAZ])) ?_
    refine Dr.read (by first | rfl | kernel_rfl) (by rfl) (by assumption) (fun M hM => by simp only [zAY,zAU,zAT,sp_n,Nat.reduceLT,ne_eq,Nat.reduceEqDiff,zNf,fx,zBA,hn,hw2] <;> rfl) (by rfl) (by first | exact VQ.int _ _ | exact VQ.bool _ | exact VQ.ptr _ _ | exact VQ.slice _ _ _ | exact VQ.func (by simp [zAW,zAV,zAZ]) (by simp [zAW,zAV,zAZ]) | exact VQ.agg (by simp [zAW,zAV,zAZ]) | exact VQ.tuple (by simp [zAW,zAV,zAZ])) ?_
    refine Dr.call (by kernel_rfl) (by rfl) (by assumption) (by rfl) (zAC (by rfl) ⟨by rfl,by rfl⟩ (by rfl) (xs := [y.v,.int .i64 (n : Int)]) (by simp only [zAY,zAU,zAT,sp_n,Nat.reduceLT,ne_eq,Nat.reduceEqDiff,zNf,List.map_cons,List.map_nil,List.nil_append,List.append_nil,hn,Las.v]) (at_S hM1.wf okY1 n y3 (by omega))) ?_
    rintro v M2 ⟨hv,k2⟩
    obtain rfl := hv _ _ _ _ _ _ _ _ rfl okY1.1 okY1.2.1
    have hM2 : Nx D.next D M2 := hM1.trans (k2.le hM1.next)
    have F2 := hF _ hM2
    have okX := hXD.ok.nx hM2
    rw [show atL y.st y.ro n = y.s n from rfl]
    refine Dr.read (by first | rfl | kernel_rfl) (by rfl) (by assumption) (fun M hM => by simp only [zAY,zAU,zAT,sp_n,Nat.reduceLT,ne_eq,Nat.reduceEqDiff,zNf,fx,zBA,hn,hw3] <;> rfl) (by rfl) (by first | exact VQ.int _ _ | exact VQ.bool _ | exact VQ.ptr _ _ | exact VQ.slice _ _ _ | exact VQ.func (by simp [zAW,zAV,zAZ]) (by simp [zAW,zAV,zAZ]) | exact VQ.agg (by simp [zAW,zAV,zAZ]) | exact VQ.tuple (by simp [zAW,zAV,zAZ])) ?_
    refine Dr.read (by first | rfl | kernel_rfl) (by rfl) (by assumption) (fun M hM => by simp only [zAY,zAT,ne_eq,Nat.reduceEqDiff,zNf,fx,s8] <;> rfl) (by rfl) (by first | exact VQ.int _ _ | exact VQ.bool _ | exact VQ.ptr _ _ | exact VQ.slice _ _ _ | exact VQ.func (by simp [zAW,zAV,zAZ]) (by simp [zAW,zAV,zAZ]) | exact VQ.agg (by simp [zAW,zAV,zAZ]) | exact VQ.tuple (by simp [zAW,zAV,zAZ])) ?_
    refine Dr.call (by kernel_rfl) (by rfl) (by assumption) (by rfl) (zAC (by rfl) ⟨by rfl,by rfl⟩ (by rfl) (xs := [.int .i64 (y.s (n + step) - y.s n),.int .i64 x.m]) (by simp only [zAY,zAU,zAT,sp_n,Nat.reduceLT,ne_eq,Nat.reduceEqDiff,zNf,List.map_cons,List.map_nil,List.nil_append,List.append_nil,hn]) (mod_S hM2.wf (by omega))) ?_
    rintro v M3 ⟨hv,k3⟩
    obtain rfl := hv _ _ rfl
    rw [hback]
    have hM3 : Nx D.next D M3 := hM2.trans (k3.le hM2.next)
    have F3 := hF _ hM3
    have okX := hXD.ok.nx hM3
    refine Dr.read (by first | rfl | kernel_rfl) (by rfl) (by assumption) (fun M hM => by simp only [zAY,zAT,ne_eq,Nat.reduceEqDiff,zNf,fx,ld,zAR,cls,Nat.zero_add,Nat.reduceAdd,tk24,s9,X0 M hM,X1 M hM,X2 M hM] <;> rfl) (by rfl) (by first | exact VQ.int _ _ | exact VQ.bool _ | exact VQ.ptr _ _ | exact VQ.slice _ _ _ | exact VQ.func (by simp [zAW,zAV,zAZ]) (by simp [zAW,zAV,zAZ]) | exact VQ.agg (by simp [zAW,zAZ]) | exact VQ.tuple (by simp [zAW,zAV,zAZ])) ?_
    refine Dr.read (by first | rfl | kernel_rfl) (by rfl) (by assumption) (fun M hM => by simp only [zAY,zAT,ne_eq,Nat.reduceEqDiff,zNf,fx,s14] <;> rfl) (by rfl) (by first | exact VQ.int _ _ | exact VQ.bool _ | exact VQ.ptr _ _ | exact VQ.slice _ _ _ | exact VQ.func (by simp [zAW,zAV,zAZ]) (by simp [zAW,zAV,zAZ]) | exact VQ.agg (by simp [zAW,zAV,zAZ]) | exact VQ.tuple (by simp [zAW,zAV,zAZ])) ?_
    refine Dr.call (by kernel_rfl) (by rfl) (by assumption) (by rfl) (zAC (by rfl) ⟨by rfl,by rfl⟩ (by rfl) (xs := [x.v,.int .i64 ((n + step : Nat) : Int)]) (by simp only [zAY,zAU,zAT,sp_n,Nat.reduceLT,ne_eq,Nat.reduceEqDiff,zNf,List.map_cons,List.map_nil,List.nil_append,List.append_nil,hn,Las.v]) (at_S hM3.wf okX (n + step) x3 (by omega))) ?_
    rintro v M4 ⟨hv,k4⟩
    obtain rfl := hv _ _ _ _ _ _ _ _ rfl okX.1 okX.2.1
    have hM4 : Nx D.next D M4 := hM3.trans (k4.le hM3.next)
    have F4 := hF _ hM4
    rw [show atL x.st x.ro (n + step) = x.s (n + step) from rfl]
    refine Dr.read (by first | rfl | kernel_rfl) (by rfl) (by assumption) (fun M hM => by simp only [zAY,zAU,zAT,sp_n,Nat.reduceLT,ne_eq,Nat.reduceEqDiff,zNf,fx,zBP,Bool.not_true,Bool.not_true,hn,eq_self,decide_true,Bool.not_true] <;> rfl) (by rfl) (by first | exact VQ.int _ _ | exact VQ.bool _ | exact VQ.ptr _ _ | exact VQ.slice _ _ _ | exact VQ.func (by simp [zAW,zAV,zAZ]) (by simp [zAW,zAV,zAZ]) | exact VQ.agg (by simp [zAW,zAV,zAZ]) | exact VQ.tuple (by simp [zAW,zAV,zAZ])) ?_
    refine Dr.nil (by rfl) (fun M hM => by cases hM) F4 ⟨M4,by rfl,?_⟩
    refine Rn.zAI hc rfl ?_
    simp only [zAY,zAU,sp_n,Nat.reduceLT,hn,Value.bool.injEq,zEl]
    refine Rn.skip hc ?_
    have hB4 : Nx B.next B M4 := hD.trans (hM4.le nD)
    exact scd_off hcons (hA.trans (hB4.le nB)) (hX.nx hB4) (hY.nx hB4) hxe hye hym hs hys (by simp only [sp_n,hn]) (by simp only [zAT,ne_eq,Nat.reduceEqDiff,zNf,s9]) (by simp only [zAT,ne_eq,Nat.reduceEqDiff,zNf,s10]) (by simp only [zAT,ne_eq,Nat.reduceEqDiff,zNf,s11])
end Go.Proofs.Ytdaljohmfnfgiaa
namespace Go.Proofs.Ytdaljohmfnfgiaa
open Go Go.RowKit Go.Proofs.Ytdaljohmfnfgiaa.Canon
set_option maxRecDepth 20000
theorem so22_9 : sof Try.prog 22 9 = .mk (fun k => some (k * 1,1)) 9 [.int .i64 0,.int .i64 0,.int .i64 0,.int .i64 0,.int .i64 0,.int .i64 0,.int .i64 0,.int .i64 0,.int .i64 0] := by kernel_rfl
theorem bs22_9 {d : Option Tmp} {ty : TypeId} {pos : String} {af : Array Edge} {gu : Option (Nat × Bool)} {A : AHeap} {s : Slots} {x0 x1 x2 x3 x4 x5 x6 x7 x8 : Int} : zAL Try.prog (zBU s) ⟨d,.buildSlice 22 9 #[(0,.const (.int .i64 x0)),(1,.const (.int .i64 x1)),(2,.const (.int .i64 x2)),(3,.const (.int .i64 x3)),(4,.const (.int .i64 x4)),(5,.const (.int .i64 x5)),(6,.const (.int .i64 x6)),(7,.const (.int .i64 x7)),(8,.const (.int .i64 x8))],ty,pos,af,gu⟩ A
    = some (.slice (some ⟨A.next,0,none⟩) 9 9,A.push (.cells #[.int .i64 x0,.int .i64 x1,.int .i64 x2,.int .i64 x3,.int .i64 x4,.int .i64 x5,.int .i64 x6,.int .i64 x7,.int .i64 x8] 3)) := by
  refine zCS (r := [.int .i64 x0,.int .i64 x1,.int .i64 x2,.int .i64 x3,.int .i64 x4,.int .i64 x5,.int .i64 x6,.int .i64 x7,.int .i64 x8]) (by rfl) so22_9 et22 rfl ?_
  simp [fbld,Value.cells,zAS]
theorem scd_scan (hcons : ConsOK) {A B : AHeap} (hA : Nx A.next A B) {bA : Nat} {x : Las} (hX : Hs B bA x) (hxe : x.err = 0) {step n : Nat} (hs : 1 ≤ step ∧ step ≤ 8) (hn16 : n < 65536)
    {s : Slots} (hn : s.n = 138) (s2 : sget s 2 = .int .u16 (n : Int)) (s8 : sget s 8 = .int .i64 x.m) (s9 : sget s 9 = .pointer (some ⟨bA,0,none⟩)) (s10 : sget s 10 = .int .i64 (step : Int)) :
    Rn Try.prog 12 none [.code (restN 5 (Try.f12.body.getD .skip))] s [] B (endQ Try.prog Try.f12 (fun w A1 => w = .bool true ∧ Nx A.next A A1)) := by
  obtain ⟨⟨xm1,xm2⟩,xl⟩ := err_lim hxe
  obtain ⟨mn,hmn⟩ : ∃ k : Nat,x.m = (k : Int) := ⟨x.m.toNat,by omega⟩
  have nB := hA.next
  have d0 := hX.c0
  have d1 := hX.c1
  have d2 := hX.c2
  have her : erS x (step : Int) = 0 := by
    unfold erS
    rw [if_pos hxe,if_neg (by omega)]
  have hsc := scan_run hA.wf hX.ok (sp := (step : Int))
  rw [her,Int.toNat_natCast] at hsc
  refine Rn.seq hc ?_
  refine Rn.region hc fun K hK => ?_
  refine Wo.run hc 2 rfl rfl rfl ?_
  simp (maxSteps := 2000000) only [List.drop_zero,List.take_succ_cons,List.take_zero,zAY,zAT,ne_eq,Nat.reduceEqDiff,not_false_eq_true,gd,zAX,rops,fx,ld,zAR,cls,Nat.zero_add,Option.some.injEq,exists_eq_left',Nat.reduceAdd,tk24,s9,s10,d0,d1,d2]
  refine Wo.call hc (by rfl) (by rfl) ⟨by rfl,by rfl⟩ (xs := [x.v,.int .i64 (step : Int)]) (by rfl) (by rfl) (by simp only [zAY,zAU,zAT,sp_n,Nat.reduceLT,ne_eq,Nat.reduceEqDiff,zNf,List.map_cons,List.map_nil,List.nil_append,List.append_nil,hn]; rfl) (Con.mono hsc ?_)
  rintro w C1 ⟨hx1,mm,L1,L2,ee,p1,c1,p2,c2,hTP,rfl,i1,i2,-⟩
  obtain ⟨C2,p3,hx2,hn2,f0,f1,f2⟩ := put24 hx1.wf (v0 := .int .i64 mm) (v1 := .slice p1 L1.length c1) (v2 := .slice p2 L2.length c2) rfl
  refine Wo.run hc 6 rfl rfl rfl ?_
  simp (maxSteps := 2000000) only [List.drop_zero,List.drop_succ_cons,List.take_succ_cons,List.take_zero,zAY,zAU,zAT,sp_n,zAN,Nat.reduceLT,ne_eq,Nat.reduceEqDiff,not_false_eq_true,gd,zAX,rops,fx,str,ext,zAR,List.getElem?_toArray,List.getElem?_cons_zero,List.getElem?_cons_succ,Nat.zero_add,Option.some.injEq,exists_eq_left',Value.cells,Nat.reduceAdd,tk24,hn,ext,ze24,p3,List.size_toArray,List.length_cons,List.length_nil,Nat.beq_refl]
  refine Wo.done hc rfl (hK _ _ ?_)
  clear hK
  (repeat (first | refine Rn.seq hc ?_ | refine Rn.skip hc ?_ | refine Rn.block hc ?_ | refine Rn.inBlock hc ?_ | refine Rn.scope hc ?_ | refine Rn.inScope hc ?_))
  have n1 := hx1.next
  have hB2 : Nx B.next B C2 := hx1.trans (hx2.le n1)
  rw [hmn] at hTP
  rcases tp_go hTP (by omega) (fun n => scn_lim (by omega) n) with h11 | ⟨h0,rfl,herr,hat⟩
  · have hd0 : (!decide (ee = 0)) = true := by rw [decide_eq_false (by omega)]; rfl
    have hd1 : decide (ee = 11) = true := decide_eq_true h11
    refine Rn.reg hc rfl ?_
    simp only [zAY,zAS,zAU,sp_n,Nat.reduceLT,gd,zAX,rops,fx,zBP,zOi,zEl,hn,hd0]
    (repeat (first | refine Rn.seq hc ?_ | refine Rn.skip hc ?_ | refine Rn.block hc ?_ | refine Rn.inBlock hc ?_ | refine Rn.scope hc ?_ | refine Rn.inScope hc ?_))
    refine Rn.zAI hc rfl ?_
    simp only [zAY,zAU,sp_n,Nat.reduceLT,Value.bool.injEq,zEl,hn]
    (repeat (first | refine Rn.seq hc ?_ | refine Rn.skip hc ?_ | refine Rn.block hc ?_ | refine Rn.inBlock hc ?_ | refine Rn.scope hc ?_ | refine Rn.inScope hc ?_))
    refine Rn.region hc fun K hK => ?_
    refine Wo.run hc 3 rfl rfl rfl ?_
    simp (maxSteps := 2000000) only [List.drop_zero,List.take_succ_cons,List.take_zero,zAY,zAS,zAU,zAT,sp_n,Nat.reduceLT,ne_eq,Nat.reduceEqDiff,not_false_eq_true,gd,zAX,rops,fx,zCF,Nat.zero_add,Option.some.injEq,exists_eq_left',hn,hd1]
    refine Wo.call hc (by rfl) (by rfl) ⟨by rfl,by rfl⟩ (xs := []) (by simp only [zAU,sp_n,Nat.reduceLT,gd,nth,zAG,beqB,hn]) (by rfl) (by rfl) (Con.mono (awake_con C2) ?_)
    rintro w C3 ⟨rfl,rfl⟩
    refine Wo.run hc 2 rfl rfl rfl ?_
    simp (maxSteps := 2000000) only [List.drop_zero,List.drop_succ_cons,List.take_succ_cons,List.take_zero,zAY,zAU,zAT,sp_n,Nat.reduceLT,ne_eq,Nat.reduceEqDiff,not_false_eq_true,gd,zAX,rops,fx,pck,Option.some.injEq,exists_eq_left',Nat.reduceAdd,hn]
    refine Wo.done hc rfl (hK _ _ ?_)
    clear hK
    (repeat (first | refine Rn.seq hc ?_ | refine Rn.skip hc ?_ | refine Rn.block hc ?_ | refine Rn.inBlock hc ?_ | refine Rn.scope hc ?_ | refine Rn.inScope hc ?_))
    refine Rn.ret (zAJ rfl ⟨?_,hA.trans (hB2.le nB)⟩)
    simp only [zAU,sp_n,Nat.reduceLT,hn]
  · subst h0
    have hd0 : (!decide ((0 : Int) = 0)) = false := by rfl
    obtain ⟨e1,e2⟩ := errL_len herr
    have hY : Hs C2 C1.next ⟨(mn : Int),p1,c1,L1,p2,c2,L2⟩ := { c0 := f0,c1 := f1,c2 := f2,ok := ⟨(i1.nx hx2 (Nat.le_refl _)).mono (Nat.zero_le _) hx2.next,(i2.nx hx2 (Nat.le_refl _)).mono (Nat.zero_le _) hx2.next,show L1.length < _ by omega,show L2.length < _ by omega⟩,lt := by omega }
    have hw2 := hx2.wf
    refine Rn.reg hc rfl ?_
    simp only [zAY,zAS,zAU,sp_n,Nat.reduceLT,gd,zAX,rops,fx,zBP,zOi,zEl,hn]
    (repeat (first | refine Rn.seq hc ?_ | refine Rn.skip hc ?_ | refine Rn.block hc ?_ | refine Rn.inBlock hc ?_ | refine Rn.scope hc ?_ | refine Rn.inScope hc ?_))
    refine Rn.zAI hc rfl ?_
    simp only [zAY,zAU,sp_n,Nat.reduceLT,Value.bool.injEq,zEl,hn]
    (repeat (first | refine Rn.seq hc ?_ | refine Rn.skip hc ?_ | refine Rn.block hc ?_ | refine Rn.inBlock hc ?_ | refine Rn.scope hc ?_ | refine Rn.inScope hc ?_))
    refine Rn.region hc fun K hK => ?_
    refine Wo.run hc 3 rfl rfl rfl ?_
    simp (maxSteps := 2000000) only [List.drop_zero,List.take_succ_cons,List.take_zero,zAY,zAU,zAT,sp_n,Nat.reduceLT,ne_eq,Nat.reduceEqDiff,not_false_eq_true,gd,zAX,rops,fx,ld,zAR,cls,Nat.zero_add,Option.some.injEq,exists_eq_left',Nat.reduceAdd,tk24,hn,s8,f0,f1,f2]
    rw [hmn]
    refine Wo.call hc (by rfl) (by rfl) ⟨by rfl,by rfl⟩ (xs := [.agg #[.int .i64 (mn : Int),.slice p1 L1.length c1,.slice p2 L2.length c2],.int .i64 0,.int .i64 (mn : Int)]) (by rfl) (by rfl) (by simp only [zAY,zAU,zAT,sp_n,Nat.reduceLT,ne_eq,Nat.reduceEqDiff,zNf,List.map_cons,List.map_nil,List.nil_append,List.append_nil,hn]) (Con.mono (right_lasso hw2 hY.ok.1 hY.ok.2.1 hY.ok.2.2.1 hY.ok.2.2.2 herr) ?_)
    rintro w C3 ⟨rfl,hx3⟩
    refine Wo.run hc 1 rfl rfl rfl ?_
    simp (maxSteps := 2000000) only [List.drop_zero,List.drop_succ_cons,List.take_succ_cons,List.take_zero,zAY,zAU,sp_n,Nat.reduceLT,gd,zAX,rops,fx,Option.some.injEq,exists_eq_left',Nat.reduceAdd,Bool.not_true,ae_not',Bool.not_true,hn]
    refine Wo.done hc rfl (hK _ _ ?_)
    clear hK
    refine Rn.zAI hc rfl ?_
    simp only [zAY,zAU,sp_n,Nat.reduceLT,hn,Value.bool.injEq,zEl]
    refine Rn.skip hc ?_
    have hB3 : Nx B.next B C3 := hB2.trans (hx3.le hB2.next)
    exact scd_look hcons (hA.trans (hB3.le nB)) (hX.nx hB3) (hY.nx hx3) hxe herr hmn.symm hs hn16 (by rw [hmn]; exact hat) (by simp only [sp_n,hn]) (by simp only [zAT,ne_eq,Nat.reduceEqDiff,zNf,s2]) (by simp only [zAT,ne_eq,Nat.reduceEqDiff,zNf,s8]) (by simp only [zAT,ne_eq,Nat.reduceEqDiff,zNf,s9]) (by simp only [zAT,ne_eq,Nat.reduceEqDiff,zNf,s10]) (by simp only [zAU,zAT,sp_n,Nat.reduceLT,ne_eq,Nat.reduceEqDiff,zNf,hn])
theorem law_scanned (hcons : ConsOK) {A : AHeap} (hw : WF A) {na : Option Addr} {nn nc : Nat} (hb : Bys A na A.next nn) (hnn : nn < 9223372036854775808) {by' n : Nat} (hby : by' < 256) (hn16 : n < 65536) :
    ConF Try.prog 12 [.slice na nn nc,.int .u8 (by' : Int),.int .u16 (n : Int)] A (fun w A1 => w = .bool true ∧ Nx A.next A A1) := by
  refine conF_of_rn hc Try.func12 rfl (Nat.le_of_ble_eq_true rfl) ?_
  rw [s_in3]
  (repeat (first | refine Rn.seq hc ?_ | refine Rn.skip hc ?_ | refine Rn.block hc ?_ | refine Rn.inBlock hc ?_ | refine Rn.scope hc ?_ | refine Rn.inScope hc ?_))
  refine Rn.reg hc rfl ?_
  simp only [zAS,gd,zAX,rops,fx,zOi,zEl,show Try.f12.ntmps = 138 from rfl]
  (repeat (first | refine Rn.seq hc ?_ | refine Rn.skip hc ?_ | refine Rn.block hc ?_ | refine Rn.inBlock hc ?_ | refine Rn.scope hc ?_ | refine Rn.inScope hc ?_))
  refine Rn.region hc fun K hK => ?_
  refine Wo.run hc 1 rfl rfl rfl ?_
  simp (maxSteps := 2000000) only [List.drop_zero,List.take_succ_cons,List.take_zero,zAY,zAU,zAT,Nat.reduceLT,ne_eq,Nat.reduceEqDiff,not_false_eq_true,gd,zAX,rops,fx,Nat.zero_add,Option.some.injEq,exists_eq_left']
  refine Wo.call hc (by rfl) (by rfl) ⟨by rfl,by rfl⟩ (xs := [.slice na nn nc]) (by rfl) (by rfl) (by rfl) (Con.mono (fill_sack hw hb) ?_)
  rintro w A1 ⟨rfl,hn1,hx1,S1⟩
  refine Wo.run hc 1 rfl rfl rfl ?_
  simp (maxSteps := 2000000) only [List.drop_zero,List.drop_succ_cons,List.take_succ_cons,List.take_zero,zAY,zAU,sp_n,Nat.reduceLT,gd,zAX,rops,fx,Option.some.injEq,exists_eq_left',Nat.reduceAdd]
  refine Wo.done hc rfl (hK _ _ ?_)
  clear hK
  (repeat (first | refine Rn.seq hc ?_ | refine Rn.skip hc ?_ | refine Rn.block hc ?_ | refine Rn.inBlock hc ?_ | refine Rn.scope hc ?_ | refine Rn.inScope hc ?_))
  have hbA : A.next < A1.next := by obtain ⟨_,q⟩ := S1.at'; exact S1.wf _ _ q
  have hx2 : Nx A1.next A1 (A1.push (.cells #[.int .i64 2,.int .i64 3,.int .i64 4,.int .i64 5,.int .i64 6,.int .i64 7,.int .i64 8,.int .i64 10,.int .i64 26] 3)) := (Nx.refl S1.wf _).push (Nat.le_refl _) _
  have l2 := zAQ A1 (.cells #[.int .i64 2,.int .i64 3,.int .i64 4,.int .i64 5,.int .i64 6,.int .i64 7,.int .i64 8,.int .i64 10,.int .i64 26] 3)
  have hn2 : (A1.push (.cells #[.int .i64 2,.int .i64 3,.int .i64 4,.int .i64 5,.int .i64 6,.int .i64 7,.int .i64 8,.int .i64 10,.int .i64 26] 3)).next = A1.next + 1 := rfl
  generalize e2 : A1.push (.cells #[.int .i64 2,.int .i64 3,.int .i64 4,.int .i64 5,.int .i64 6,.int .i64 7,.int .i64 8,.int .i64 10,.int .i64 26] 3) = A2 at hx2 l2 hn2
  have S2 := S1.same hx2.wf fun b' hb' => hx2.keep _ (by omega)
  refine Rn.region hc fun K hK => ?_
  refine Wo.run hc 2 rfl rfl rfl ?_
  simp (maxSteps := 2000000) only [List.drop_zero,List.take_succ_cons,List.take_zero,zAY,zAU,zAT,sp_n,Nat.reduceLT,ne_eq,Nat.reduceEqDiff,not_false_eq_true,gd,zAX,rops,fx,Nat.zero_add,Option.some.injEq,exists_eq_left',bs22_9,e2]
  refine Wo.call hc (by rfl) (by rfl) ⟨by rfl,by rfl⟩ (xs := [.pointer (some ⟨A.next,0,none⟩),.int .i64 ((9 : Nat) : Int)]) (by rfl) (by rfl) (by rfl) (Con.mono (below_sack S2 (by omega) hnn (m := ((9 : Nat) : Int)) (by omega)) ?_)
  rintro w A3 ⟨r,rfl,hr,k3,nx3,hnx3,S3⟩
  have hr9 : r < 9 := by omega
  have l3 : Canon.look A3.objs A1.next = _ := (k3.keep _ (by omega) (by omega)).trans l2
  obtain ⟨m,hm2,hm7,hcm⟩ : ∃ m : Nat,2 ≤ m ∧ m ≤ 26 ∧ cl A3 A1.next (0 + r * 1) = some (.int .i64 (m : Int)) := by
    rw [zBM l3 rfl]
    match r,hr9 with
    | 0,_ => exact ⟨2,by omega,by omega,rfl⟩
    | 1,_ => exact ⟨3,by omega,by omega,rfl⟩
    | 2,_ => exact ⟨4,by omega,by omega,rfl⟩
    | 3,_ => exact ⟨5,by omega,by omega,rfl⟩
    | 4,_ => exact ⟨6,by omega,by omega,rfl⟩
    | 5,_ => exact ⟨7,by omega,by omega,rfl⟩
    | 6,_ => exact ⟨8,by omega,by omega,rfl⟩
    | 7,_ => exact ⟨10,by omega,by omega,rfl⟩
    | 8,_ => exact ⟨26,by omega,by omega,rfl⟩
  have hcm' : cl A3 A1.next r = some (.int .i64 (m : Int)) := by simpa using hcm
  refine Wo.run hc 3 rfl rfl rfl ?_
  simp (maxSteps := 2000000) only [List.drop_zero,List.drop_succ_cons,List.take_succ_cons,List.take_zero,zAY,zAU,zAT,sp_n,Nat.reduceLT,ne_eq,Nat.reduceEqDiff,not_false_eq_true,gd,zAX,rops,fx,ld,idx,zAR,Nat.zero_add,Option.some.injEq,exists_eq_left',Nat.reduceAdd,Nat.mul_one,tk3,eo22,zAK hr9,hcm']
  refine Wo.done hc rfl (hK _ _ ?_)
  clear hK
  (repeat (first | refine Rn.seq hc ?_ | refine Rn.skip hc ?_ | refine Rn.block hc ?_ | refine Rn.inBlock hc ?_ | refine Rn.scope hc ?_ | refine Rn.inScope hc ?_))
  refine Rn.region hc fun K hK => ?_
  refine Wo.run hc 2 rfl rfl rfl ?_
  simp (maxSteps := 2000000) only [List.drop_zero,List.take_succ_cons,List.take_zero,zAY,zAU,zAT,sp_n,Nat.reduceLT,ne_eq,Nat.reduceEqDiff,not_false_eq_true,gd,zAX,rops,fx,Nat.zero_add,Option.some.injEq,exists_eq_left']
  refine Wo.call hc (by rfl) (by rfl) ⟨by rfl,by rfl⟩ (xs := [.pointer (some ⟨A.next,0,none⟩),.int .i64 (m : Int),.int .i64 ((8 : Nat) : Int),.int .i64 ((8 : Nat) : Int)]) (by rfl) (by rfl) (by rfl) (Con.mono (drawn S3 (by omega) hnn (m := m) (stem := 8) (round := 8) (by omega) (by omega) (by omega)) ?_)
  rintro w A4 ⟨k4,⟨nx4,hnx4,S4⟩,sa,ra,st,ro,rfl,hst,hro1,hro2,hin1,hin2,hgs,hgr⟩
  obtain ⟨A5,p5,hx5,hn5,d0,d1,d2⟩ := put24 S4.wf (v0 := .int .i64 (m : Int)) (v1 := .slice sa st.length st.length) (v2 := .slice ra ro.length ro.length) rfl
  refine Wo.run hc 2 rfl rfl rfl ?_
  simp (maxSteps := 2000000) only [List.drop_zero,List.drop_succ_cons,List.take_succ_cons,List.take_zero,zAY,zAU,zAT,sp_n,zAN,Nat.reduceLT,ne_eq,Nat.reduceEqDiff,not_false_eq_true,gd,zAX,rops,fx,str,zAR,Nat.zero_add,Option.some.injEq,exists_eq_left',Value.cells,Nat.reduceAdd,tk24,ze24,p5,List.size_toArray,List.length_cons,List.length_nil,Nat.beq_refl]
  refine Wo.done hc rfl (hK _ _ ?_)
  clear hK
  (repeat (first | refine Rn.seq hc ?_ | refine Rn.skip hc ?_ | refine Rn.block hc ?_ | refine Rn.inBlock hc ?_ | refine Rn.scope hc ?_ | refine Rn.inScope hc ?_))
  have he : errL m st ro = 0 := errL_ok (by omega) (by omega) hro1 (by omega) hin1 hin2
  have hx05 : Nx A.next A A5 := ⟨by have := k3.next; have := k4.next; have := hx1.next; omega,hx5.wf,fun b hb' => by
    have := k3.next
    have := k4.next
    have := hx1.next
    rw [hx5.keep _ (by omega),k4.keep _ (by omega) (by omega),k3.keep _ (by omega) (by omega),hx2.keep _ (by omega),hx1.keep _ (by omega)]⟩
  have x1 : Ints A5 sa 0 A5.next st := ((hgs.ints.nx hx5 (Nat.le_refl _)).mono (Nat.zero_le _) hx5.next)
  have x2 : Ints A5 ra 0 A5.next ro := ((hgr.ints.nx hx5 (Nat.le_refl _)).mono (Nat.zero_le _) hx5.next)
  have hX : Hs A5 A4.next ⟨(m : Int),sa,st.length,st,ra,ro.length,ro⟩ := { c0 := d0,c1 := d1,c2 := d2,ok := ⟨x1,x2,show st.length < _ by omega,show ro.length < _ by omega⟩,lt := by omega }
  have hrem : ∀ M,bin Try.prog .rem 3 (.int .i64 (by' : Int)) (.int .i64 8) M = some (.int .i64 ((by' % 8 : Nat) : Int),M) := fun M => by
    rw [zCM _ _ _ _ (by omega),IntWalk.rem_in _ _ (by omega)]
    rfl
  have hlong : by' % 8 < 8 := Nat.mod_lt _ (by omega)
  generalize by' % 8 = q8 at hrem hlong
  obtain ⟨step,hstep⟩ : ∃ t,t = 1 + q8 := ⟨_,rfl⟩
  have hwst : IntKind.i64.wrap ((1 : Int) + (q8 : Int)) = (step : Int) := by rw [IntWalk.i64_in _ (by omega)]; omega
  refine Rn.reg hc rfl ?_
  simp only [zAY,zAS,zAU,zAT,sp_n,Nat.reduceLT,ne_eq,Nat.reduceEqDiff,zNf,gd,zAX,rops,fx,zAE,zOi,zEl,ae_cv,cv53 hby,hrem,hwst]
  exact scd_scan hcons hx05 hX he (step := step) (n := n) (by omega) hn16 (by simp only [sp_n]) (by simp only [zAU,zAT,sp_n,Nat.reduceLT,ne_eq,Nat.reduceEqDiff,zNf]) (by simp only [zAU,zAT,sp_n,Nat.reduceLT,ne_eq,Nat.reduceEqDiff,zNf]) (by simp only [zAU,zAT,sp_n,Nat.reduceLT,ne_eq,Nat.reduceEqDiff,zNf]) (by simp only [zAU,sp_n,Nat.reduceLT])
end Go.Proofs.Ytdaljohmfnfgiaa
namespace Go.Proofs.Ytdaljohmfnfgiaa
open Go Go.RowKit Go.Proofs.Ytdaljohmfnfgiaa.Canon
set_option maxRecDepth 20000
end Go.Proofs.Ytdaljohmfnfgiaa
namespace Go.Proofs.Ytdaljohmfnfgiaa
open Go Go.RowKit Go.Proofs.Ytdaljohmfnfgiaa.Canon
set_option maxRecDepth 20000
structure Sp (lo hi : Nat) (D : AHeap) (b : Nat) (y : Las) : Prop where
  c0 : cl D b 0 = some (.int .i64 y.m)
  c1 : cl D b 1 = some (.slice y.sa y.st.length y.sc)
  c2 : cl D b 2 = some (.slice y.ra y.ro.length y.rc)
  lt : b < D.next
  hb : hi ≤ b
  ln : y.ro.length < 4611686018427387904
  w1 : Wrt D y.sa lo hi y.st.length
  w2 : Wrt D y.ra lo hi y.ro.length
end Go.Proofs.Ytdaljohmfnfgiaa
namespace Go.Proofs.Ytdaljohmfnfgiaa
open Go Go.RowKit Go.Proofs.Ytdaljohmfnfgiaa.Canon
set_option maxRecDepth 20000
end Go.Proofs.Ytdaljohmfnfgiaa
namespace Go.Proofs.Ytdaljohmfnfgiaa
open Go Go.RowKit Go.Proofs.Ytdaljohmfnfgiaa.Canon
set_option maxRecDepth 20000
end Go.Proofs.Ytdaljohmfnfgiaa
namespace Go.Proofs.Ytdaljohmfnfgiaa
open Go.ChangeShapes Go.WideShapes Go.ChangeAt Go.RowKit Go.Proofs.Ytdaljohmfnfgiaa.Canon
open Go.Deep (open_slice_pairs open_slice)
end Go.Proofs.Ytdaljohmfnfgiaa
namespace Go.Proofs.Ytdaljohmfnfgiaa
open Go.ChangeShapes Go.WideShapes Go.ChangeAt Go.RowKit Go.Proofs.Ytdaljohmfnfgiaa.Canon
open Go.Deep (open_slice_pairs open_slice)
end Go.Proofs.Ytdaljohmfnfgiaa
namespace Go.Proofs.Ytdaljohmfnfgiaa
open Go Go.RowKit Go.Proofs.Ytdaljohmfnfgiaa.Canon
set_option maxRecDepth 20000
theorem un115 : Try.prog.underlying 115 = some (.slice 22) := by kernel_rfl
theorem eo115 : eof Try.prog 115 = some 1 := by kernel_rfl
def GrowOK : Prop := ∀ (A : AHeap),WF A → ∀ n : Nat,0 < n → n ≤ 1000 → Con Try.prog 107 [.slice none 0 0,.int .i64 (n : Int)] A (fun v A1 => v = .slice (some ⟨A.next,0,none⟩) 0 n ∧ Nx A.next A A1 ∧ A1.next = A.next + 1 ∧ ∃ c : Array Value,c.size = n ∧ Canon.look A1.objs A.next = some ⟨.cells c 3,true,1⟩)
def full (ll : Nat → List Int) (i : Nat) : List Int := (List.range i).flatMap ll
theorem full_succ (ll : Nat → List Int) (i : Nat) : full ll (i + 1) = full ll i ++ ll i := by simp [full,List.range_succ]
theorem full_le (ll : Nat → List Int) {i p : Nat} (h : i ≤ p) : (full ll i).length ≤ (full ll p).length := by
  induction p with
  | zero =>
    have : i = 0 := by omega
    subst this
    exact Nat.le_refl _
  | succ p ih =>
    by_cases hp : i = p + 1
    · subst hp; exact Nat.le_refl _
    · rw [full_succ,List.length_append]
      have := ih (by omega)
      omega
theorem concat_run (hgrow : GrowOK) {A : AHeap} (hw : WF A) {q p c0 : Nat} {aa : Nat → Option Addr} {cc : Nat → Nat} {ll : Nat → List Int} (hq : ∀ i,i < p → cl A q i = some (.slice (aa i) (ll i).length (cc i))) (hqn : q < A.next) (hi : ∀ i,i < p → Ints A (aa i) 0 A.next (ll i)) (htot : (full ll p).length ≤ 1000) (hpos : 0 < (full ll p).length) (hp : p ≤ 1000) :
    Con Try.prog 81 [.slice (some ⟨q,0,none⟩) p c0] A (fun v A1 => ∃ a,v = .slice a (full ll p).length (full ll p).length ∧ Nx A.next A A1 ∧ Ints A1 a A.next A1.next (full ll p) ∧ Sl A1 a A.next) := by
  refine zAM hc Try.func81 rfl (Nat.le_of_ble_eq_true rfl) ?_
  rw [s_in1]
  (repeat (first | refine Rn.seq hc ?_ | refine Rn.skip hc ?_ | refine Rn.block hc ?_ | refine Rn.inBlock hc ?_ | refine Rn.scope hc ?_ | refine Rn.inScope hc ?_))
  refine Rn.reg hc rfl ?_
  simp only [zAS,gd,zAX,rops,fx,zOi,zEl,show Try.f81.ntmps = 36 from rfl]
  (repeat (first | refine Rn.seq hc ?_ | refine Rn.skip hc ?_ | refine Rn.block hc ?_ | refine Rn.inBlock hc ?_ | refine Rn.scope hc ?_ | refine Rn.inScope hc ?_))
  refine Rn.reg hc rfl ?_
  simp only [zAS,gd,zAX,rops,fx,zOi,zEl]
  (repeat (first | refine Rn.seq hc ?_ | refine Rn.skip hc ?_ | refine Rn.block hc ?_ | refine Rn.inBlock hc ?_ | refine Rn.scope hc ?_ | refine Rn.inScope hc ?_))
  refine Rn.reg hc rfl ?_
  simp only [zAY,zAS,zAU,zAT,sp_n,Nat.reduceLT,ne_eq,Nat.reduceEqDiff,zNf,gd,zAX,rops,fx,lng,zOi,zEl,un115]
  (repeat (first | refine Rn.seq hc ?_ | refine Rn.skip hc ?_ | refine Rn.block hc ?_ | refine Rn.inBlock hc ?_ | refine Rn.scope hc ?_ | refine Rn.inScope hc ?_))
  refine Rn.loopI hc (I := fun k s A' => ∃ i : Nat,i ≤ p ∧ k = p - i ∧ A' = A ∧ s.n = 36 ∧ sget s 0 = .slice (some ⟨q,0,none⟩) p c0 ∧ sget s 3 = .int .i64 ((full ll i).length : Int) ∧ sget s 9 = .slice (some ⟨q,0,none⟩) p c0 ∧ sget s 10 = .int .i64 (p : Int) ∧ sget s 11 = .int .i64 (i : Int))
    (n := p) ⟨0,Nat.zero_le _,rfl,rfl,by simp only [sp_n],by simp only [zAU,zAT,Nat.reduceLT,ne_eq,Nat.reduceEqDiff,zNf],by simp only [zAU,zAT,sp_n,Nat.reduceLT,ne_eq,Nat.reduceEqDiff,zNf]; rfl,by simp only [zAU,zAT,sp_n,Nat.reduceLT,ne_eq,Nat.reduceEqDiff,zNf],by simp only [zAU,zAT,sp_n,Nat.reduceLT,ne_eq,Nat.reduceEqDiff,zNf],by simp only [zAU,sp_n,Nat.reduceLT]; rfl⟩ ?_
  rintro k s A' ⟨i,hip,rfl,rfl,hn,s0,s3,s9,s10,s11⟩ ih
  (repeat (first | refine Rn.seq hc ?_ | refine Rn.skip hc ?_ | refine Rn.block hc ?_ | refine Rn.inBlock hc ?_ | refine Rn.scope hc ?_ | refine Rn.inScope hc ?_))
  by_cases hlt : i < p
  · have hd : decide ((i : Int) < (p : Int)) = true := decide_eq_true (by omega)
    have hle := full_le ll (show i + 1 ≤ p by omega)
    have hfs := full_succ ll i
    have hlen : (full ll (i + 1)).length = (full ll i).length + (ll i).length := by rw [hfs,List.length_append]
    have hw1 : IntKind.i64.wrap (((full ll i).length : Int) + ((ll i).length : Int)) = ((full ll (i + 1)).length : Int) := by rw [IntWalk.i64_in _ (by omega)]; omega
    have hd2 : decide (((full ll (i + 1)).length : Int) < 0) = false := decide_eq_false (by omega)
    refine Rn.reg hc rfl ?_
    simp only [zAY,gd,zAX,rops,fx,zAP,zOi,zEl,s10,s11,hd]
    (repeat (first | refine Rn.seq hc ?_ | refine Rn.skip hc ?_ | refine Rn.block hc ?_ | refine Rn.inBlock hc ?_ | refine Rn.scope hc ?_ | refine Rn.inScope hc ?_))
    refine Rn.zAI hc rfl ?_
    simp only [zAY,zAU,Nat.reduceLT,Value.bool.injEq,zEl,hn]
    (repeat (first | refine Rn.seq hc ?_ | refine Rn.skip hc ?_ | refine Rn.block hc ?_ | refine Rn.inBlock hc ?_ | refine Rn.scope hc ?_ | refine Rn.inScope hc ?_))
    refine Rn.reg hc rfl ?_
    simp only [zAY,zAU,zAT,sp_n,Nat.reduceLT,ne_eq,Nat.reduceEqDiff,zNf,gd,zAX,rops,fx,ld,idx,zAR,Nat.zero_add,zOi,zEl,Nat.mul_one,tk22,eo115,hn,s9,s11,zAK hlt,hq i hlt]
    (repeat (first | refine Rn.seq hc ?_ | refine Rn.skip hc ?_ | refine Rn.block hc ?_ | refine Rn.inBlock hc ?_ | refine Rn.scope hc ?_ | refine Rn.inScope hc ?_))
    refine Rn.reg hc rfl ?_
    simp only [zAY,zAU,zAT,sp_n,Nat.reduceLT,ne_eq,Nat.reduceEqDiff,zNf,gd,zAX,rops,fx,lng,zAE,zOi,zEl,un22,hn,s3,hw1]
    (repeat (first | refine Rn.seq hc ?_ | refine Rn.skip hc ?_ | refine Rn.block hc ?_ | refine Rn.inBlock hc ?_ | refine Rn.scope hc ?_ | refine Rn.inScope hc ?_))
    refine Rn.reg hc rfl ?_
    simp only [zAY,zAS,zAU,sp_n,Nat.reduceLT,gd,zAX,rops,fx,zAP,zOi,zEl,hn,hd2]
    (repeat (first | refine Rn.seq hc ?_ | refine Rn.skip hc ?_ | refine Rn.block hc ?_ | refine Rn.inBlock hc ?_ | refine Rn.scope hc ?_ | refine Rn.inScope hc ?_))
    refine Rn.zAI hc rfl ?_
    simp only [zAY,zAU,sp_n,Nat.reduceLT,Value.bool.injEq,zEl,hn]
    (repeat (first | refine Rn.seq hc ?_ | refine Rn.skip hc ?_ | refine Rn.block hc ?_ | refine Rn.inBlock hc ?_ | refine Rn.scope hc ?_ | refine Rn.inScope hc ?_))
    refine Rn.reg hc rfl ?_
    simp only [zAY,zAS,zAU,zAT,sp_n,Nat.reduceLT,ne_eq,Nat.reduceEqDiff,zNf,gd,zAX,rops,fx,zAE,zOi,zEl,hn,s11,zBY (show i < 9223372036854775807 by omega)]
    (repeat (first | refine Rn.seq hc ?_ | refine Rn.skip hc ?_ | refine Rn.block hc ?_ | refine Rn.inBlock hc ?_ | refine Rn.scope hc ?_ | refine Rn.inScope hc ?_))
    exact ih _ _ _ (by omega) ⟨i + 1,by omega,rfl,rfl,by simp only [sp_n,hn],by simp only [zAT,ne_eq,Nat.reduceEqDiff,zNf,s0],by simp only [zAU,zAT,sp_n,Nat.reduceLT,ne_eq,Nat.reduceEqDiff,zNf,hn],by simp only [zAT,ne_eq,Nat.reduceEqDiff,zNf,s9],by simp only [zAT,ne_eq,Nat.reduceEqDiff,zNf,s10],by simp only [zAU,sp_n,Nat.reduceLT,hn]⟩
  · have hd : decide ((i : Int) < (p : Int)) = false := decide_eq_false (by omega)
    have hie : i = p := by omega
    subst hie
    clear ih
    refine Rn.reg hc rfl ?_
    simp only [zAY,gd,zAX,rops,fx,zAP,zOi,zEl,s10,s11,hd]
    (repeat (first | refine Rn.seq hc ?_ | refine Rn.skip hc ?_ | refine Rn.block hc ?_ | refine Rn.inBlock hc ?_ | refine Rn.scope hc ?_ | refine Rn.inScope hc ?_))
    refine Rn.zAI hc rfl ?_
    simp only [zAY,zAU,Nat.reduceLT,Value.bool.injEq,zEl,hn]
    (repeat (first | refine Rn.seq hc ?_ | refine Rn.skip hc ?_ | refine Rn.block hc ?_ | refine Rn.inBlock hc ?_ | refine Rn.scope hc ?_ | refine Rn.inScope hc ?_))
    refine Rn.exit hc rfl ?_
    (repeat (first | refine Rn.seq hc ?_ | refine Rn.skip hc ?_ | refine Rn.block hc ?_ | refine Rn.inBlock hc ?_ | refine Rn.scope hc ?_ | refine Rn.inScope hc ?_))
    refine Rn.region hc fun K hK => ?_
    refine Wo.run hc 1 rfl rfl rfl ?_
    simp (maxSteps := 2000000) only [List.drop_zero,List.take_succ_cons,List.take_zero,zAY,zAT,ne_eq,Nat.reduceEqDiff,not_false_eq_true,gd,zAX,rops,fx,Nat.zero_add,Option.some.injEq,exists_eq_left',s3]
    refine Wo.call hc (by rfl) (by rfl) ⟨by rfl,by rfl⟩ (xs := [.slice none 0 0,.int .i64 ((full ll i).length : Int)]) (by rfl) (by rfl) (by simp only [zAY,zAS,zAU,sp_n,Nat.reduceLT,List.map_cons,List.map_nil,List.nil_append,List.append_nil,hn]) (Con.mono (hgrow A' hw _ hpos htot) ?_)
    rintro w A1 ⟨rfl,hx1,hn1,c,hcs,l1⟩
    refine Wo.run hc 1 rfl rfl rfl ?_
    simp (maxSteps := 2000000) only [List.drop_zero,List.drop_succ_cons,List.take_succ_cons,List.take_zero,zAY,zAU,sp_n,Nat.reduceLT,gd,zAX,rops,fx,Option.some.injEq,exists_eq_left',Nat.reduceAdd,hn]
    refine Wo.done hc rfl (hK _ _ ?_)
    clear hK
    (repeat (first | refine Rn.seq hc ?_ | refine Rn.skip hc ?_ | refine Rn.block hc ?_ | refine Rn.inBlock hc ?_ | refine Rn.scope hc ?_ | refine Rn.inScope hc ?_))
    refine Rn.reg hc rfl ?_
    simp only [zAY,zAS,zAU,zAT,sp_n,Nat.reduceLT,ne_eq,Nat.reduceEqDiff,zNf,gd,zAX,rops,fx,lng,zOi,zEl,un115,hn,s0]
    (repeat (first | refine Rn.seq hc ?_ | refine Rn.skip hc ?_ | refine Rn.block hc ?_ | refine Rn.inBlock hc ?_ | refine Rn.scope hc ?_ | refine Rn.inScope hc ?_))
    refine Rn.loopI hc (I := fun k s B => ∃ (j : Nat) (c : Array Value),j ≤ i ∧ k = i - j ∧ Nx A'.next A' B ∧ B.next = A1.next ∧ c.size = (full ll i).length ∧ Canon.look B.objs A'.next = some ⟨.cells c 3,true,1⟩ ∧ (∀ k,k < (full ll j).length → c[k]? = some (.int .i64 ((full ll j).getD k 0))) ∧ s.n = 36 ∧ sget s 6 = .slice (some ⟨A'.next,0,none⟩) (full ll j).length (full ll i).length ∧ sget s 25 = .slice (some ⟨q,0,none⟩) i c0 ∧ sget s 26 = .int .i64 (i : Int) ∧ sget s 27 = .int .i64 (j : Int))
      (n := i) ⟨0,c,Nat.zero_le _,rfl,hx1,rfl,hcs,l1,fun k hk => by simp [full] at hk,by simp only [sp_n,hn],by simp only [zAU,zAT,sp_n,Nat.reduceLT,ne_eq,Nat.reduceEqDiff,zNf,hn]; rfl,by simp only [zAU,zAT,sp_n,Nat.reduceLT,ne_eq,Nat.reduceEqDiff,zNf,hn],by simp only [zAU,zAT,sp_n,Nat.reduceLT,ne_eq,Nat.reduceEqDiff,zNf,hn],by simp only [zAU,sp_n,Nat.reduceLT,hn]; rfl⟩ ?_
    clear hn s0 s3 s9 s10 s11 s hd l1 hcs c
    rintro k s B ⟨j,c,hj,rfl,hB,hnB,hcs,lB,hcl,hn,s6,s25,s26,s27⟩ ih
    (repeat (first | refine Rn.seq hc ?_ | refine Rn.skip hc ?_ | refine Rn.block hc ?_ | refine Rn.inBlock hc ?_ | refine Rn.scope hc ?_ | refine Rn.inScope hc ?_))
    by_cases hlj : j < i
    · have hd : decide ((j : Int) < (i : Int)) = true := decide_eq_true (by omega)
      have hle := full_le ll (show j + 1 ≤ i by omega)
      have hfs := full_succ ll j
      have hlen : (full ll (j + 1)).length = (full ll j).length + (ll j).length := by rw [hfs,List.length_append]
      have hqB : cl B q j = _ := (hB.cl hqn j).trans (hq j hlj)
      have hiB := (hi j hlj).nx hB (Nat.le_refl _)
      obtain ⟨B1,c1,u1,u2,u3,u4⟩ := sts_upd (A := B) (b := A'.next) (o := (full ll j).length) (l := (ll j).map (Value.int .i64)) lB rfl (by simp; omega) (by simp [zAA])
      have happ := aapp_room (P := Try.prog) (A := B) (A1 := B1) (st := 22) (tx := 22) (b := A'.next) (o := 0) (a2 := aa j) (n := (full ll j).length) (c := (full ll i).length) (m := (ll j).length) (c2 := cc j) (l2 := (ll j).map (Value.int .i64)) el22 un22 hiB.row (by simp) (by simp [zAA]) (fun h' => by
        by_cases h0 : (ll j).length = 0
        · exact h0
        · have hiB := hiB
          rw [h'] at hiB
          exact absurd hiB.some h0) (by omega) (by rw [Nat.zero_add]; exact u1)
      rw [← hlen] at happ
      refine Rn.reg hc rfl ?_
      simp only [zAY,gd,zAX,rops,fx,zAP,zOi,zEl,s26,s27,hd]
      (repeat (first | refine Rn.seq hc ?_ | refine Rn.skip hc ?_ | refine Rn.block hc ?_ | refine Rn.inBlock hc ?_ | refine Rn.scope hc ?_ | refine Rn.inScope hc ?_))
      refine Rn.zAI hc rfl ?_
      simp only [zAY,zAU,Nat.reduceLT,Value.bool.injEq,zEl,hn]
      (repeat (first | refine Rn.seq hc ?_ | refine Rn.skip hc ?_ | refine Rn.block hc ?_ | refine Rn.inBlock hc ?_ | refine Rn.scope hc ?_ | refine Rn.inScope hc ?_))
      refine Rn.reg hc rfl ?_
      simp only [zAY,zAU,zAT,sp_n,Nat.reduceLT,ne_eq,Nat.reduceEqDiff,zNf,gd,zAX,rops,fx,ld,idx,zAR,Nat.zero_add,zOi,zEl,Nat.mul_one,tk22,eo115,hn,s25,s27,zAK hlj,hqB]
      (repeat (first | refine Rn.seq hc ?_ | refine Rn.skip hc ?_ | refine Rn.block hc ?_ | refine Rn.inBlock hc ?_ | refine Rn.scope hc ?_ | refine Rn.inScope hc ?_))
      refine Rn.reg hc rfl ?_
      simp only [zAY,zAU,zAT,sp_n,Nat.reduceLT,ne_eq,Nat.reduceEqDiff,zNf,gd,zAX,rops,fx,zOi,zEl,hn,s6,ae_apd,apd_slice,happ]
      (repeat (first | refine Rn.seq hc ?_ | refine Rn.skip hc ?_ | refine Rn.block hc ?_ | refine Rn.inBlock hc ?_ | refine Rn.scope hc ?_ | refine Rn.inScope hc ?_))
      refine Rn.reg hc rfl ?_
      simp only [zAY,zAS,zAU,zAT,sp_n,Nat.reduceLT,ne_eq,Nat.reduceEqDiff,zNf,gd,zAX,rops,fx,zAE,zOi,zEl,hn,s27,zBY (show j < 9223372036854775807 by omega)]
      (repeat (first | refine Rn.seq hc ?_ | refine Rn.skip hc ?_ | refine Rn.block hc ?_ | refine Rn.inBlock hc ?_ | refine Rn.scope hc ?_ | refine Rn.inScope hc ?_))
      have l2 : Canon.look B1.objs A'.next = some ⟨.cells c1 3,true,1⟩ := by
        obtain ⟨c',t,f,g,e,r1,r2,_⟩ := u2.at'
        rw [lB] at r1
        cases r1
        exact r2
      refine ih _ _ _ (by omega) ⟨j + 1,c1,by omega,rfl,hB.trans (u2.nx hB.wf (by omega)),by rw [u2.next]; exact hnB,by rw [u3]; exact hcs,l2,fun k hk => ?_,by simp only [sp_n,hn],by simp only [zAU,zAT,sp_n,Nat.reduceLT,ne_eq,Nat.reduceEqDiff,zNf,hn],by simp only [zAT,ne_eq,Nat.reduceEqDiff,zNf,s25],by simp only [zAT,ne_eq,Nat.reduceEqDiff,zNf,s26],by simp only [zAU,sp_n,Nat.reduceLT,hn]⟩
      rw [u4,hfs]
      by_cases hk1 : k < (full ll j).length
      · rw [if_neg (by omega),hcl k hk1,List.getD_eq_getElem?_getD,List.getD_eq_getElem?_getD,List.getElem?_append_left hk1]
      · rw [if_pos ⟨by omega,by simp; omega⟩]
        have hk2 : k - (full ll j).length < (ll j).length := by omega
        simp [List.getD_eq_getElem?_getD,List.getElem?_append_right (Nat.le_of_not_lt hk1),hk2]
    · have hd : decide ((j : Int) < (i : Int)) = false := decide_eq_false (by omega)
      have hji : j = i := by omega
      subst hji
      clear ih
      refine Rn.reg hc rfl ?_
      simp only [zAY,gd,zAX,rops,fx,zAP,zOi,zEl,s26,s27,hd]
      (repeat (first | refine Rn.seq hc ?_ | refine Rn.skip hc ?_ | refine Rn.block hc ?_ | refine Rn.inBlock hc ?_ | refine Rn.scope hc ?_ | refine Rn.inScope hc ?_))
      refine Rn.zAI hc rfl ?_
      simp only [zAY,zAU,Nat.reduceLT,Value.bool.injEq,zEl,hn]
      (repeat (first | refine Rn.seq hc ?_ | refine Rn.skip hc ?_ | refine Rn.block hc ?_ | refine Rn.inBlock hc ?_ | refine Rn.scope hc ?_ | refine Rn.inScope hc ?_))
      refine Rn.exit hc rfl ?_
      (repeat (first | refine Rn.seq hc ?_ | refine Rn.skip hc ?_ | refine Rn.block hc ?_ | refine Rn.inBlock hc ?_ | refine Rn.scope hc ?_ | refine Rn.inScope hc ?_))
      refine Rn.reg hc rfl ?_
      simp only [zAY,zAU,zAT,sp_n,Nat.reduceLT,ne_eq,Nat.reduceEqDiff,zNf,gd,zAX,rops,fx,zOi,zEl,hn,s6]
      (repeat (first | refine Rn.seq hc ?_ | refine Rn.skip hc ?_ | refine Rn.block hc ?_ | refine Rn.inBlock hc ?_ | refine Rn.scope hc ?_ | refine Rn.inScope hc ?_))
      refine Rn.ret (zAJ rfl ⟨some ⟨A'.next,0,none⟩,?_,hB,fun k hk => ⟨A'.next,0,rfl,Nat.le_refl _,by omega,?_⟩,fun y hy => by cases hy; exact ⟨rfl,Nat.le_refl _,_,lB,.inr ⟨rfl,rfl,rfl⟩⟩⟩)
      · simp only [zAU,sp_n,Nat.reduceLT,hn]
      · rw [zBM lB rfl,Nat.zero_add]
        exact hcl k hk
end Go.Proofs.Ytdaljohmfnfgiaa
namespace Go.Proofs.Ytdaljohmfnfgiaa
open Go Go.RowKit Go.Proofs.Ytdaljohmfnfgiaa.Canon
set_option maxRecDepth 20000
theorem et115 : elemT Try.prog 115 = some 22 := by kernel_rfl
theorem so115_2 : sof Try.prog 115 2 = .mk (fun k => some (k * 1,1)) 2 [.slice none 0 0,.slice none 0 0] := by kernel_rfl
theorem fb115_2 {ρ : Operand → Value} {d : Option Tmp} {ty : TypeId} {pos : String} {af : Array Edge} {gu : Option (Nat × Bool)} {x y : Tmp} {u v : Value} (hu : ρ (.tmp x) = u) (hv : ρ (.tmp y) = v) (hcu : zAA u = true) (hcv : zAA v = true) : fobj Try.prog ρ ⟨d,.buildSlice 115 2 #[(0,.tmp x),(1,.tmp y)],ty,pos,af,gu⟩ = some ⟨[u,v],22,.sl 2 2⟩ := by
  have := fbld_fill (ρ := ρ) (pl := fun k => some (k * 1,1)) (n := 2) (ps := [(0,.tmp x),(1,.tmp y)]) (cs := [.slice none 0 0,.slice none 0 0]) (r := [u,v]) rfl (by simp [fbld,hu,hv,zBX hcu,zBX hcv])
  have hok : ([((0 : Nat),Operand.tmp x),(1,Operand.tmp y)].all fun p => zAF p.2) = true := rfl
  simp only [fobj,so115_2,et115,hok,this]
theorem Dr.callP {S : Canon.Spec} {ops : Array Oper} {F : AHeap → Prop} {nb i : Nat} {o : Oper} {os : List Oper} {T : Slots} {A : AHeap} {pd : List (Nat × FO)} {K : Slots → List AHeap → Prop} (he : zBG Try.prog (cvE Try.prog ops) o = true) (hf : isFl Try.prog o = false) {pd1 pd2 : List (Nat × FO)} (hp1 : pd.filter (keyIn ((nth (zCU ops.toList) i).getD 0)) = pd1) (hp2 : pd.filter (fun x => !keyIn ((nth (zCU ops.toList) i).getD 0) x) = pd2)
    {ms0 : List AHeap} {A0 : AHeap} (hp : zBO nb pd1 A = some (ms0,A0)) (hms : ∀ M ∈ ms0,F M) (hA : F A0) (hw : zCQ (gd ops o) T = true) {R : Value → AHeap → Prop}
    (h : ∃ v A1,opRun Try.prog (runS Try.prog S) (zBU T) o A0 = some (v,A1) ∧ R v A1) (k : ∀ v A1,R v A1 → Dr Try.prog S ops F nb (i + 1) os (sput T o.dst v) pd2 A1 (fun T1 ms => K T1 (ms0 ++ (A0 :: ms)))) : Dr Try.prog S ops F nb i (o :: os) T pd A K := by
  obtain ⟨v,A1,h1,h2⟩ := h
  exact Dr.eff he hf hp1 hp2 hp hms hA hw h1 (k v A1 h2)
def ccS (m : Int) (L : List Int) (E : Nat → Int) : Canon.Spec := fun g _ A v A1 => match g with
  | 69 => ∃ a p,Red E a p ∧ LeastQ A m E a p v A1
  | _ => ∃ a,v = .slice a L.length L.length ∧ Nx A.next A A1 ∧ Ints A1 a A.next A1.next L ∧ Sl A1 a A.next
theorem cons_of_grow (hgrow : GrowOK) : ConsOK := by
  intro A hw m v sa ra sc rc st ro hs hr ls lr
  refine zAM hc Try.func35 rfl (Nat.le_of_ble_eq_true rfl) ?_
  obtain ⟨A0,e0,hx0,hn0,b0,b1,b2⟩ := box3 hw (.int .i64 m) (.slice sa st.length sc) (.slice ra ro.length rc) 24
  have hx1 : Nx A0.next A0 (A0.push (.cells #[.int .i64 0,.slice none 0 0,.slice none 0 0] 24)) := (Nx.refl hx0.wf _).push (Nat.le_refl _) _
  have l1 := zAQ A0 (.cells #[.int .i64 0,.slice none 0 0,.slice none 0 0] 24)
  have hn1 : (A0.push (.cells #[.int .i64 0,.slice none 0 0,.slice none 0 0] 24)).next = A0.next + 1 := rfl
  generalize e1 : A0.push (.cells #[.int .i64 0,.slice none 0 0,.slice none 0 0] 24) = A1 at hx1 l1 hn1
  obtain ⟨A3,e3,hx3,hn3,c0,c1,c2⟩ := box3 hx1.wf (.int .i64 m) (.slice sa st.length sc) (.slice ra ro.length rc) 24
  have hx01 : Nx A.next A A1 := hx0.trans (hx1.le hx0.next)
  have hx03 : Nx A.next A A3 := hx01.trans (hx3.le hx01.next)
  have hrow : LRow A3 (some ⟨A1.next,0,none⟩) [⟨m,sa,sc,st,ra,rc,ro⟩] := fun i hi => by
    have : i = 0 := by simp at hi; omega
    subst this
    exact ⟨⟨(hs.nx hx03 (Nat.le_refl _)).mono (Nat.le_refl _) hx03.next,(hr.nx hx03 (Nat.le_refl _)).mono (Nat.le_refl _) hx03.next,ls,lr⟩,_,_,rfl,by omega,c0,c1,c2⟩
  have b0 := (hx1.cl (show A.next < A0.next by omega) 0).trans b0
  have b1 := (hx1.cl (show A.next < A0.next by omega) 1).trans b1
  have b2 := (hx1.cl (show A.next < A0.next by omega) 2).trans b2
  rw [s_in2]
  (repeat (first | refine Rn.seq hc ?_ | refine Rn.skip hc ?_ | refine Rn.block hc ?_ | refine Rn.inBlock hc ?_ | refine Rn.scope hc ?_ | refine Rn.inScope hc ?_))
  refine Rn.reg hc rfl ?_
  simp only [zAY,zAS,zAU,sp_n,Nat.reduceLT,gd,zAX,rops,fx,zOi,zEl,Value.cells,show Try.f35.ntmps = 36 from rfl,e0,ze24,e1]
  (repeat (first | refine Rn.seq hc ?_ | refine Rn.skip hc ?_ | refine Rn.block hc ?_ | refine Rn.inBlock hc ?_ | refine Rn.scope hc ?_ | refine Rn.inScope hc ?_))
  refine Rn.region hc fun K hK => ?_
  refine Wo.run hc 2 rfl rfl rfl ?_
  simp (maxSteps := 2000000) only [List.drop_zero,List.take_succ_cons,List.take_zero,zAY,zAU,zAT,sp_n,Nat.reduceLT,ne_eq,Nat.reduceEqDiff,not_false_eq_true,gd,zAX,rops,fx,ld,zAR,cls,Nat.zero_add,Option.some.injEq,exists_eq_left',Value.cells,Nat.reduceAdd,tk24,b0,b1,b2,bs46_1,List.size_toArray,List.length_cons,List.length_nil,e3]
  refine Wo.call hc (by rfl) (by rfl) ⟨by rfl,by rfl⟩ (xs := [.slice (some ⟨A1.next,0,none⟩) 1 1]) (by rfl) (by rfl) (by rfl) (Con.mono (check_all hx3.wf (l := [⟨m,sa,sc,st,ra,rc,ro⟩]) hrow (by simp)) ?_)
  rintro w A4 ⟨rfl,hx4⟩
  rw [errs_one,show (⟨m,sa,sc,st,ra,rc,ro⟩ : Las).err = errL m st ro from rfl]
  refine Wo.run hc 1 rfl rfl rfl ?_
  simp (maxSteps := 2000000) only [List.drop_zero,List.drop_succ_cons,List.take_succ_cons,List.take_zero,zAY,zAU,sp_n,Nat.reduceLT,gd,zAX,rops,fx,Option.some.injEq,exists_eq_left',Nat.reduceAdd]
  refine Wo.done hc rfl (hK _ _ ?_)
  clear hK
  (repeat (first | refine Rn.seq hc ?_ | refine Rn.skip hc ?_ | refine Rn.block hc ?_ | refine Rn.inBlock hc ?_ | refine Rn.scope hc ?_ | refine Rn.inScope hc ?_))
  have hx34 : Nx A1.next A1 A4 := hx3.trans (hx4.le hx3.next)
  have hx04 : Nx A.next A A4 := hx01.trans (hx34.le hx01.next)
  have n4 : A0.next < A4.next := by have := hx4.next; omega
  have l4 : Canon.look A4.objs A0.next = _ := (hx34.keep _ (by omega)).trans l1
  have b0 := (hx34.cl (show A.next < A1.next by omega) 0).trans b0
  have b1 := (hx34.cl (show A.next < A1.next by omega) 1).trans b1
  have b2 := (hx34.cl (show A.next < A1.next by omega) 2).trans b2
  have hn0A := hx0.next
  clear hrow c0 c1 c2 e3 e1 e0 hx3 hx4 hx1
  unfold erC
  by_cases he : errL m st ro = 0
  · have hd : (!decide (errL m st ro = 0)) = false := by rw [decide_eq_true he]; rfl
    obtain ⟨l60,l120⟩ := errL_len he
    have hro := errL_pos he
    rw [if_pos he]
    refine Rn.reg hc rfl ?_
    simp only [zAY,zAS,zAU,sp_n,Nat.reduceLT,gd,zAX,rops,fx,zBP,zOi,zEl,hd]
    (repeat (first | refine Rn.seq hc ?_ | refine Rn.skip hc ?_ | refine Rn.block hc ?_ | refine Rn.inBlock hc ?_ | refine Rn.scope hc ?_ | refine Rn.inScope hc ?_))
    refine Rn.zAI hc rfl ?_
    simp only [zAY,zAU,sp_n,Nat.reduceLT,Value.bool.injEq,zEl]
    (repeat (first | refine Rn.seq hc ?_ | refine Rn.skip hc ?_ | refine Rn.block hc ?_ | refine Rn.inBlock hc ?_ | refine Rn.scope hc ?_ | refine Rn.inScope hc ?_))
    by_cases hneg : v < 0 ∨ m ≤ v
    · obtain ⟨D,q1,g0,g1,g2,hxD⟩ := err_fin hx04 hn0A n4 l4
      rw [if_pos hneg]
      have h3 : (decide (v < 0) = true) ∨ (decide (v < 0) = false ∧ decide (m ≤ v) = true) := by
        by_cases h : v < 0
        · exact .inl (decide_eq_true h)
        · exact .inr ⟨decide_eq_false h,decide_eq_true (hneg.resolve_left h)⟩
      rcases h3 with h1 | ⟨h1,h2⟩
      · refine Rn.reg hc rfl ?_
        simp only [zAY,zAS,zAU,zAT,sp_n,Nat.reduceLT,ne_eq,Nat.reduceEqDiff,zNf,gd,nth,zAX,zAG,beqB,rops,fx,pck,zAP,zOi,zEl,h1]
        (repeat (first | refine Rn.seq hc ?_ | refine Rn.skip hc ?_ | refine Rn.block hc ?_ | refine Rn.inBlock hc ?_ | refine Rn.scope hc ?_ | refine Rn.inScope hc ?_))
        refine Rn.zAI hc rfl ?_
        simp only [zAY,zAU,sp_n,Nat.reduceLT,Value.bool.injEq,zEl]
        (repeat (first | refine Rn.seq hc ?_ | refine Rn.skip hc ?_ | refine Rn.block hc ?_ | refine Rn.inBlock hc ?_ | refine Rn.scope hc ?_ | refine Rn.inScope hc ?_))
        refine Rn.reg hc rfl ?_
        simp only [zAY,zAS,zAU,zAT,sp_n,zAN,Nat.reduceLT,ne_eq,Nat.reduceEqDiff,zNf,gd,zAX,rops,fx,str,zAR,Nat.zero_add,zOi,zEl,Nat.reduceAdd,tk24,bd24_z,q1,List.size_toArray,List.length_cons,List.length_nil,Nat.beq_refl]
        (repeat (first | refine Rn.seq hc ?_ | refine Rn.skip hc ?_ | refine Rn.block hc ?_ | refine Rn.inBlock hc ?_ | refine Rn.scope hc ?_ | refine Rn.inScope hc ?_))
        refine Rn.ret (zCT rfl (v := .agg #[.int .i64 0,.slice none 0 0,.slice none 0 0]) ?_ ?_)
        · simp only [zAU,zAT,sp_n,Nat.reduceLT,ne_eq,Nat.reduceEqDiff,zNf,ld,zAR,cls,Nat.zero_add,Nat.reduceAdd,tk24,g0,g1,g2]
        · simp only [zAU,sp_n,Nat.reduceLT]
          exact tld_err (by omega) hxD
      · refine Rn.reg hc rfl ?_
        simp only [zAY,zAS,zAU,zAT,sp_n,Nat.reduceLT,ne_eq,Nat.reduceEqDiff,zNf,gd,nth,zAX,zAG,beqB,rops,fx,ld,fad,pck,zAP,bin_geq,zAR,Nat.add_zero,zOi,zEl,tk3,fo24_0,h1,h2,b0]
        (repeat (first | refine Rn.seq hc ?_ | refine Rn.skip hc ?_ | refine Rn.block hc ?_ | refine Rn.inBlock hc ?_ | refine Rn.scope hc ?_ | refine Rn.inScope hc ?_))
        refine Rn.zAI hc rfl ?_
        simp only [zAY,zAU,sp_n,Nat.reduceLT,Value.bool.injEq,zEl]
        (repeat (first | refine Rn.seq hc ?_ | refine Rn.skip hc ?_ | refine Rn.block hc ?_ | refine Rn.inBlock hc ?_ | refine Rn.scope hc ?_ | refine Rn.inScope hc ?_))
        refine Rn.reg hc rfl ?_
        simp only [zAY,zAS,zAU,zAT,sp_n,zAN,Nat.reduceLT,ne_eq,Nat.reduceEqDiff,zNf,gd,zAX,rops,fx,str,zAR,Nat.zero_add,zOi,zEl,Nat.reduceAdd,tk24,bd24_z,q1,List.size_toArray,List.length_cons,List.length_nil,Nat.beq_refl]
        (repeat (first | refine Rn.seq hc ?_ | refine Rn.skip hc ?_ | refine Rn.block hc ?_ | refine Rn.inBlock hc ?_ | refine Rn.scope hc ?_ | refine Rn.inScope hc ?_))
        refine Rn.ret (zCT rfl (v := .agg #[.int .i64 0,.slice none 0 0,.slice none 0 0]) ?_ ?_)
        · simp only [zAU,zAT,sp_n,Nat.reduceLT,ne_eq,Nat.reduceEqDiff,zNf,ld,zAR,cls,Nat.zero_add,Nat.reduceAdd,tk24,g0,g1,g2]
        · simp only [zAU,sp_n,Nat.reduceLT]
          exact tld_err (by omega) hxD
    · have h1 : decide (v < 0) = false := decide_eq_false fun h => hneg (.inl h)
      have h2 : decide (m ≤ v) = false := decide_eq_false fun h => hneg (.inr h)
      rw [if_neg hneg]
      refine Rn.reg hc rfl ?_
      simp only [zAY,zAS,zAU,zAT,sp_n,Nat.reduceLT,ne_eq,Nat.reduceEqDiff,zNf,gd,nth,zAX,zAG,beqB,rops,fx,ld,fad,pck,zAP,bin_geq,zAR,Nat.add_zero,zOi,zEl,tk3,fo24_0,h1,h2,b0]
      (repeat (first | refine Rn.seq hc ?_ | refine Rn.skip hc ?_ | refine Rn.block hc ?_ | refine Rn.inBlock hc ?_ | refine Rn.scope hc ?_ | refine Rn.inScope hc ?_))
      refine Rn.zAI hc rfl ?_
      simp only [zAY,zAU,sp_n,Nat.reduceLT,Value.bool.injEq,zEl]
      (repeat (first | refine Rn.seq hc ?_ | refine Rn.skip hc ?_ | refine Rn.block hc ?_ | refine Rn.inBlock hc ?_ | refine Rn.scope hc ?_ | refine Rn.inScope hc ?_))
      obtain ⟨F,hF1,hF2⟩ : ∃ F : AHeap → Prop,(∀ C,F C → ∀ b,b < A4.next → b ≠ A0.next → ∀ o,cl C b o = cl A4 b o) ∧ (∀ C,(∀ b,b < A4.next → b ≠ A0.next → Canon.look C.objs b = Canon.look A4.objs b) → F C) := ⟨fun C => ∀ b,b < A4.next → b ≠ A0.next → ∀ o,cl C b o = cl A4 b o,fun _ h => h,fun C h b h1 h2 o => zBT (h b h1 h2)⟩
      have hF : ∀ C,Nx A4.next A4 C → F C := fun C h => hF2 C fun b hb _ => h.keep b hb
      have G0 := fun M hM => (hF1 M hM A.next (by omega) (by omega) 0).trans b0
      have G1 := fun M hM => (hF1 M hM A.next (by omega) (by omega) 1).trans b1
      have G2 := fun M hM => (hF1 M hM A.next (by omega) (by omega) 2).trans b2
      have hbk : Nx A4.next A4 (bump A4 15) := Nx.bump (Nx.refl hx04.wf _) 15
      have FB := hF _ hbk
      refine Rn.drawnF hc hx (ccS m (v :: st) (atL (v :: st) ro)) F (n := 5) (k := 15) (by kernel_rfl) (by kernel_rfl) (by rfl) ?_
      refine Dr.read (by first | rfl | kernel_rfl) (by rfl) (by assumption) (fun M hM => by simp only [zAY,zAU,zAT,sp_n,Nat.reduceLT,ne_eq,Nat.reduceEqDiff,zNf,fx,fad,zAR,Nat.add_zero,fo24_0] <;> rfl) (by rfl) (by first | exact VQ.int _ _ | exact VQ.bool _ | exact VQ.ptr _ _ | exact VQ.slice _ _ _ | exact VQ.func (by simp [zAW,zAV,zAZ]) (by simp [zAW,zAV,zAZ]) | exact VQ.agg (by simp [zAW,zAV,zAZ]) | exact VQ.tuple (by simp [zAW,zAV,zAZ])) ?_
      refine Dr.read (by first | rfl | kernel_rfl) (by rfl) (by assumption) (fun M hM => by simp only [zAY,zAU,sp_n,Nat.reduceLT,fx,ld,zAR,tk3,G0 M hM] <;> rfl) (by rfl) (by first | exact VQ.int _ _ | exact VQ.bool _ | exact VQ.ptr _ _ | exact VQ.slice _ _ _ | exact VQ.func (by simp [zAW,zAV,zAZ]) (by simp [zAW,zAV,zAZ]) | exact VQ.agg (by simp [zAW,zAV,zAZ]) | exact VQ.tuple (by simp [zAW,zAV,zAZ])) ?_
      refine Dr.read (by first | rfl | kernel_rfl) (by rfl) (by assumption) (fun M hM => by simp only [zAY,zAU,zAT,Nat.reduceLT,ne_eq,Nat.reduceEqDiff,zNf,fx] <;> rfl) (by rfl) (by first | exact VQ.int _ _ | exact VQ.bool _ | exact VQ.ptr _ _ | exact VQ.slice _ _ _ | exact VQ.func (by simp [zAW,zAV,zAZ]) (by simp [zAW,zAV,zAZ]) | exact VQ.agg (by simp [zAW,zAV,zAZ]) | exact VQ.tuple (by simp [zAW,zAV,zAZ])) ?_
      refine Dr.float (by rfl) (by rfl) (by rfl) (fb22_1 (v := .int .i64 v) (by simp only [zAY,zAU,sp_n,Nat.reduceLT]) rfl) ?_
      refine Dr.read (by first | rfl | kernel_rfl) (by rfl) (by assumption) (fun M hM => by simp only [zAY,zAU,zAT,sp_n,Nat.reduceLT,ne_eq,Nat.reduceEqDiff,zNf,fx,fad,zAR,Nat.zero_add,Nat.reduceAdd,zCY] <;> rfl) (by rfl) (by first | exact VQ.int _ _ | exact VQ.bool _ | exact VQ.ptr _ _ | exact VQ.slice _ _ _ | exact VQ.func (by simp [zAW,zAV,zAZ]) (by simp [zAW,zAV,zAZ]) | exact VQ.agg (by simp [zAW,zAV,zAZ]) | exact VQ.tuple (by simp [zAW,zAV,zAZ])) ?_
      refine Dr.read (by first | rfl | kernel_rfl) (by rfl) (by assumption) (fun M hM => by simp only [zAY,zAU,sp_n,Nat.reduceLT,fx,ld,zAR,Nat.zero_add,Nat.reduceAdd,tk22,G1 M hM] <;> rfl) (by rfl) (by first | exact VQ.int _ _ | exact VQ.bool _ | exact VQ.ptr _ _ | exact VQ.slice _ _ _ | exact VQ.func (by simp [zAW,zAV,zAZ]) (by simp [zAW,zAV,zAZ]) | exact VQ.agg (by simp [zAW,zAV,zAZ]) | exact VQ.tuple (by simp [zAW,zAV,zAZ])) ?_
      refine Dr.float (by rfl) (by rfl) (by rfl) (fb115_2 (u := .slice (some ⟨A4.next + 3,0,none⟩) 1 1) (v := .slice sa st.length sc) (by simp only [zAY,zAU,zAT,sp_n,Nat.reduceLT,ne_eq,Nat.reduceEqDiff,zNf,FK.val]) (by simp only [zAY,zAU,sp_n,Nat.reduceLT]) rfl rfl) ?_
      obtain ⟨C1,p1,hxC1,eC1,lC1,kC1⟩ := place_row hbk (b := A4.next + 6) (by omega) (by rw [zAH]; omega) (hx04.wf.none (by omega)) [.slice (some ⟨A4.next + 3,0,none⟩) 1 1,.slice sa st.length sc] 22 2 2
      rw [zAH] at eC1
      obtain ⟨C2,p2,hxC2,eC2,lC2,kC2⟩ := place_row hxC1 (b := A4.next + 3) (by omega) (by omega) (by rw [kC1 _ (by omega)]; exact hx04.wf.none (by omega)) [.int .i64 v] 3 1 1
      have hxA2 : Nx A.next A C2 := hx04.trans (hxC2.le hx04.next)
      have hfull : full (fun i => if i = 0 then [v] else st) 2 = v :: st := by simp [full,List.range_succ]
      have hcat := concat_run hgrow hxC2.wf (q := A4.next + 6) (p := 2) (c0 := 2) (aa := fun i => if i = 0 then some ⟨A4.next + 3,0,none⟩ else sa) (cc := fun i => if i = 0 then 1 else sc) (ll := fun i => if i = 0 then [v] else st)
        (fun i hi => by
          rw [zBT (kC2 _ (by omega)),zBM lC1 rfl]
          match i,hi with
          | 0,_ => rfl
          | 1,_ => rfl) (by omega)
        (fun i hi => by
          match i,hi with
          | 0,_ =>
            intro j hj
            have : j = 0 := by simp at hj; omega
            subst this
            exact ⟨A4.next + 3,0,rfl,Nat.zero_le _,by omega,by rw [zBM lC2 rfl]; rfl⟩
          | 1,_ => exact (hs.nx hxA2 (Nat.le_refl _)).mono (Nat.le_refl _) hxA2.next) (by rw [hfull,List.length_cons]; omega) (by rw [hfull,List.length_cons]; omega) (by omega)
      rw [hfull] at hcat
      refine Dr.callP (by kernel_rfl) (by rfl) (pd1 := [(6,⟨[.slice (some ⟨A4.next + 3,0,none⟩) 1 1,.slice sa st.length sc],22,.sl 2 2⟩),(3,⟨[.int .i64 v],3,.sl 1 1⟩)]) (pd2 := []) (by kernel_rfl) (by kernel_rfl) (ms0 := [bump A4 15,C1]) (A0 := C2) (by simp only [zBO,p1,p2]) (fun M hM => by
          rcases List.mem_cons.1 hM with rfl | hM
          · exact FB
          · rw [List.mem_singleton] at hM; rw [hM]; exact hF _ hxC1) (hF _ hxC2) (by rfl)
        (zAC (by rfl) ⟨by rfl,by rfl⟩ (by rfl) (xs := [.slice (some ⟨A4.next + 6,0,none⟩) 2 2]) (by simp only [zAY,zAU,sp_n,Nat.reduceLT,List.map_cons,List.map_nil,List.nil_append,List.append_nil,FK.val]) hcat) ?_
      rintro w C3 ⟨xa,rfl,k3,i3,y3⟩
      have hC3 : Nx A4.next A4 C3 := hxC2.trans (k3.le hxC2.next)
      have F3 := hF _ hC3
      refine Dr.read (by first | rfl | kernel_rfl) (by rfl) (by assumption) (fun M hM => by simp only [zAY,zAU,zAT,sp_n,Nat.reduceLT,ne_eq,Nat.reduceEqDiff,zNf,fx,fad,zAR,Nat.zero_add,Nat.reduceAdd,zDY] <;> rfl) (by rfl) (by first | exact VQ.int _ _ | exact VQ.bool _ | exact VQ.ptr _ _ | exact VQ.slice _ _ _ | exact VQ.func (by simp [zAW,zAV,zAZ]) (by simp [zAW,zAV,zAZ]) | exact VQ.agg (by simp [zAW,zAV,zAZ]) | exact VQ.tuple (by simp [zAW,zAV,zAZ])) ?_
      refine Dr.read (by first | rfl | kernel_rfl) (by rfl) (by assumption) (fun M hM => by simp only [zAY,zAU,sp_n,Nat.reduceLT,fx,ld,zAR,Nat.zero_add,Nat.reduceAdd,tk22,G2 M hM] <;> rfl) (by rfl) (by first | exact VQ.int _ _ | exact VQ.bool _ | exact VQ.ptr _ _ | exact VQ.slice _ _ _ | exact VQ.func (by simp [zAW,zAV,zAZ]) (by simp [zAW,zAV,zAZ]) | exact VQ.agg (by simp [zAW,zAV,zAZ]) | exact VQ.tuple (by simp [zAW,zAV,zAZ])) ?_
      have hxA3 : Nx A.next A C3 := hx04.trans (hC3.le hx04.next)
      have hlr := least_run k3.wf (m := m) (sc := (v :: st).length) (rc := rc) (i3.mono (Nat.zero_le _) (Nat.le_refl _)) ((hr.nx hxA3 (Nat.le_refl _)).mono (Nat.le_refl _) hxA3.next) (by rw [List.length_cons]; omega) (by omega) hro (y3.mono (Nat.zero_le _)) (Nat.le_refl _)
      refine Dr.call (by kernel_rfl) (by rfl) (by assumption) (by rfl) (zAC (by rfl) ⟨by rfl,by rfl⟩ (by rfl) (xs := [.int .i64 m,.slice xa (v :: st).length (v :: st).length,.slice ra ro.length rc]) (by simp only [zAY,zAU,zAT,sp_n,Nat.reduceLT,ne_eq,Nat.reduceEqDiff,zNf,List.map_cons,List.map_nil,List.nil_append,List.append_nil]) (Con.mono hlr fun v A1 h => (by obtain ⟨a,p,h1,_,_,h2⟩ := h; exact ⟨a,p,h1,h2⟩))) ?_
      rintro w C4 ⟨a,p,hred,hq⟩
      have hC4 : Nx A4.next A4 C4 := hC3.trans (hq.1.le hC3.next)
      have F4 := hF _ hC4
      obtain ⟨mm,n1,n2,ee,p1,c1,p2,c2,rfl,D,q1,g0,g1,g2,hoff,hT⟩ := Tld.fin (b := A0.next) hxA3 hn0A (by have := hC3.next; omega) ((hC3.keep _ (by omega)).trans l4) (tld_q (m := m) hred hq)
      refine Dr.read (by first | rfl | kernel_rfl) (by rfl) (by assumption) (fun M hM => by simp only [zAY,zAU,sp_n,Nat.reduceLT,fx,ext,List.getElem?_toArray,List.getElem?_cons_zero,Nat.zero_add,Nat.reduceAdd] <;> rfl) (by rfl) (by first | exact VQ.int _ _ | exact VQ.bool _ | exact VQ.ptr _ _ | exact VQ.slice _ _ _ | exact VQ.func (by simp [zAW,zAV,zAZ]) (by simp [zAW,zAV,zAZ]) | exact VQ.agg (by simp [zAW,zAZ]) | exact VQ.tuple (by simp [zAW,zAV,zAZ])) ?_
      refine Dr.read (by first | rfl | kernel_rfl) (by rfl) (by assumption) (fun M hM => by simp only [zAY,zAU,zAT,sp_n,Nat.reduceLT,ne_eq,Nat.reduceEqDiff,zNf,fx,ext,List.getElem?_toArray,List.getElem?_cons_zero,List.getElem?_cons_succ,Nat.zero_add,Nat.reduceAdd] <;> rfl) (by rfl) (by first | exact VQ.int _ _ | exact VQ.bool _ | exact VQ.ptr _ _ | exact VQ.slice _ _ _ | exact VQ.func (by simp [zAW,zAV,zAZ]) (by simp [zAW,zAV,zAZ]) | exact VQ.agg (by simp [zAW,zAV,zAZ]) | exact VQ.tuple (by simp [zAW,zAV,zAZ])) ?_
      have FD : F D := hF2 D fun b hb hne => (hoff b hne).trans (hC4.keep b hb)
      refine Dr.eff (by rfl) (by rfl) (pd1 := []) (pd2 := []) (by kernel_rfl) (by kernel_rfl) (ms0 := []) (A0 := C4) rfl (fun _ h => by cases h) F4 (by rfl) (v := undef) (A1 := D) (zBK rfl (fx_ok (by rfl) (by simp only [zAY,zAU,zAT,sp_n,Nat.reduceLT,ne_eq,Nat.reduceEqDiff,zNf,fx,str,zAR,Nat.zero_add,Nat.reduceAdd,tk24,q1,List.size_toArray,List.length_cons,List.length_nil,Nat.beq_refl]))) ?_
      refine Dr.read (by first | rfl | kernel_rfl) (by rfl) (by assumption) (fun M hM => by simp only [zAY,zAU,sp_n,zAN,Nat.reduceLT,fx,Nat.zero_add,Nat.reduceAdd] <;> rfl) (by rfl) (by first | exact VQ.int _ _ | exact VQ.bool _ | exact VQ.ptr _ _ | exact VQ.slice _ _ _ | exact VQ.func (by simp [zAW,zAV,zAZ]) (by simp [zAW,zAV,zAZ]) | exact VQ.agg (by simp [zAW,zAV,zAZ]) | exact VQ.tuple (by simp [zAW,zAV,zAZ])) ?_
      refine Dr.nil (by rfl) (fun M hM => by cases hM) FD ⟨D,by rfl,?_⟩
      (repeat (first | refine Rn.seq hc ?_ | refine Rn.skip hc ?_ | refine Rn.block hc ?_ | refine Rn.inBlock hc ?_ | refine Rn.scope hc ?_ | refine Rn.inScope hc ?_))
      refine Rn.ret (zCT rfl (v := .agg #[.int .i64 mm,.slice p1 n1 c1,.slice p2 n2 c2]) ?_ ?_)
      · simp only [zAU,zAT,sp_n,zAN,Nat.reduceLT,ne_eq,Nat.reduceEqDiff,zNf,ld,zAR,cls,Nat.zero_add,Nat.reduceAdd,tk24,g0,g1,g2]
      · simp only [zAU,sp_n,zAN,Nat.reduceLT]
        exact hT
  · have hd : (!decide (errL m st ro = 0)) = true := by rw [decide_eq_false he]; rfl
    obtain ⟨D,q1,g0,g1,g2,hxD⟩ := err_fin hx04 hn0A n4 l4
    rw [if_neg he]
    refine Rn.reg hc rfl ?_
    simp only [zAY,zAS,zAU,sp_n,Nat.reduceLT,gd,zAX,rops,fx,zBP,zOi,zEl,hd]
    (repeat (first | refine Rn.seq hc ?_ | refine Rn.skip hc ?_ | refine Rn.block hc ?_ | refine Rn.inBlock hc ?_ | refine Rn.scope hc ?_ | refine Rn.inScope hc ?_))
    refine Rn.zAI hc rfl ?_
    simp only [zAY,zAU,sp_n,Nat.reduceLT,Value.bool.injEq,zEl]
    (repeat (first | refine Rn.seq hc ?_ | refine Rn.skip hc ?_ | refine Rn.block hc ?_ | refine Rn.inBlock hc ?_ | refine Rn.scope hc ?_ | refine Rn.inScope hc ?_))
    refine Rn.reg hc rfl ?_
    simp only [zAY,zAU,zAT,sp_n,zAN,Nat.reduceLT,ne_eq,Nat.reduceEqDiff,zNf,gd,zAX,rops,fx,str,zAR,Nat.zero_add,zOi,zEl,Nat.reduceAdd,tk24,bd24_z,q1,List.size_toArray,List.length_cons,List.length_nil,Nat.beq_refl]
    (repeat (first | refine Rn.seq hc ?_ | refine Rn.skip hc ?_ | refine Rn.block hc ?_ | refine Rn.inBlock hc ?_ | refine Rn.scope hc ?_ | refine Rn.inScope hc ?_))
    refine Rn.ret (zCT rfl (v := .agg #[.int .i64 0,.slice none 0 0,.slice none 0 0]) ?_ ?_)
    · simp only [zAU,zAT,sp_n,Nat.reduceLT,ne_eq,Nat.reduceEqDiff,zNf,ld,zAR,cls,Nat.zero_add,Nat.reduceAdd,tk24,g0,g1,g2]
    · simp only [zAU,sp_n,Nat.reduceLT]
      exact tld_err he hxD
end Go.Proofs.Ytdaljohmfnfgiaa
namespace Go.Proofs.Ytdaljohmfnfgiaa
open Go Go.RowKit Go.Proofs.Ytdaljohmfnfgiaa.Canon
set_option maxRecDepth 20000
def GrowCalls : Prop := ∀ (w : World) (n : Nat),0 < n → n ≤ 1000 → Calls Try.prog 107 #[.slice none 0 0,.int .i64 (n : Int)] w fun e w' => e = .returned (.slice (some ⟨w.heap.size,0,none⟩) 0 (grownCap w n 0 3)) ∧
  w' = w.drew.alloc (.cells (Builtin.zeroCells (Value.int .i64 0).cells n ++ Builtin.zeroCells (Value.int .i64 0).cells (grownCap w n 0 3 - n)) 3)
theorem zc_all (n : Nat) : ∀ v ∈ (Builtin.zeroCells (Value.int .i64 0).cells n).toList,v = .int .i64 0 := by
  intro v hv
  simp [Builtin.zeroCells,Value.cells] at hv
  obtain ⟨i,hi,rfl⟩ := hv
  simp [Nat.mod_one]
theorem zc_len (n : Nat) : (Builtin.zeroCells (Value.int .i64 0).cells n).toList.length = n := by simp [Builtin.zeroCells,Value.cells]
theorem lr_ints {φ : Phi} : ∀ {l : List Value},(∀ v ∈ l,v = .int .i64 0) → LR φ l l
  | [],_ => .nil
  | v :: l,h => by
    have hv := h v (List.mem_cons_self ..)
    subst hv
    exact .cons (.int _ _) (lr_ints fun u hu => h u (List.mem_cons_of_mem _ hu))
theorem v_relen {ψ : Phi} {b o n c k c' : Nat} {a' : Addr} (hn : n ≠ 0) (h : V ψ (.slice (some ⟨b,o,none⟩) n c) (.slice (some a') n c')) (hc0 : c ≠ 0) : V ψ (.slice (some ⟨b,o,none⟩) k c) (.slice (some a') k c') := by
  generalize hv : Value.slice (some a') n c' = v' at h
  cases h with
  | slice he hc =>
    cases hv
    exact .slice he hc
  | _ => first | (cases hv; done) | (exact absurd rfl hn) | (exact absurd rfl hc0)
theorem grow_of_calls (hg : GrowCalls) : GrowOK := by
  intro A hw n h0 hn
  obtain ⟨l,hl⟩ : ∃ l,l = (Builtin.zeroCells (Value.int .i64 0).cells n).toList := ⟨_,rfl⟩
  have hlen : l.length = n := by rw [hl]; exact zc_len n
  have hx1 : Nx A.next A ⟨A.next + 1,zDX A.next ⟨.cells l.toArray 3,true,1⟩ A.objs⟩ := by
    have h : Nx A.next A ⟨A.next + 1,A.objs⟩ := ⟨Nat.le_succ _,fun b x hx => Nat.lt_succ_of_lt (hw b x hx),fun b _ => rfl⟩
    exact h.cons (Nat.le_refl _) (Nat.lt_succ_self _) _
  refine ⟨.slice (some ⟨A.next,0,none⟩) 0 n,⟨A.next + 1,zDX A.next ⟨.cells l.toArray 3,true,1⟩ A.objs⟩,⟨⟨Try.f107,Try.func107,rfl⟩,fun N => ret_of_calls (fun N φ w xs' hx hs hN => ?_) N⟩,rfl,hx1,rfl,l.toArray,by simp [hlen],zDW _ _ _⟩
  have hxs : xs' = #[.slice none 0 0,.int .i64 (n : Int)] := by
    have hlr := hx.list
    cases hl' : xs'.toList with
    | nil => rw [hl'] at hlr; cases hlr
    | cons s' r =>
      rw [hl'] at hlr
      cases hlr with
      | cons h1 h2 =>
        cases h2 with
        | cons h3 h4 =>
          cases h4
          cases h1
          cases h3
          exact list_two hl'
  subst hxs
  refine (hg w n h0 hn).mono fun en w' ⟨he,hw'⟩ => ?_
  subst he hw'
  have hge := grownCap_ge w n 0 3
  obtain ⟨ψ,g1,g2,g3,g4⟩ := hs.grow hN (cs := l) (cs' := l) (rest := (Builtin.zeroCells (Value.int .i64 0).cells (grownCap w n 0 3 - n)).toList) (lr_ints (by rw [hl]; exact zc_all n)) 3 1 n (grownCap w n 0 3) (by omega) hge (by rw [List.length_append,hlen,zc_len]; omega) A.objs (fun b x h => h)
  refine ⟨ψ,_,rfl,g1,v_relen (by omega) g2 (by omega),?_,?_⟩
  · have e : (l ++ (Builtin.zeroCells (Value.int .i64 0).cells (grownCap w n 0 3 - n)).toList).toArray = Builtin.zeroCells (Value.int .i64 0).cells n ++ Builtin.zeroCells (Value.int .i64 0).cells (grownCap w n 0 3 - n) := by
      rw [hl]
      apply Array.ext'
      simp
    rw [e] at g3
    exact g3
  · have e : (l ++ (Builtin.zeroCells (Value.int .i64 0).cells (grownCap w n 0 3 - n)).toList).toArray = Builtin.zeroCells (Value.int .i64 0).cells n ++ Builtin.zeroCells (Value.int .i64 0).cells (grownCap w n 0 3 - n) := by
      rw [hl]
      apply Array.ext'
      simp
    rw [e] at g4
    exact g4
end Go.Proofs.Ytdaljohmfnfgiaa
namespace Go.Proofs.Ytdaljohmfnfgiaa
open Go Go.RowKit Go.Shelf Go.Proofs.Ytdaljohmfnfgiaa.Canon
def growRen : Go.Shelf.Ren := ⟨fun | 4 => 107 | n => n,fun | 25 => 3 | n => n,fun n => n⟩
theorem growLays : Go.Proofs.Lays8.n4 Try.prog growRen := {
  mixed := by kernel_rfl
  f4 := ⟨Try.f107.name,by decide,Try.func107.trans (congrArg some (by kernel_rfl))⟩
  t0 := Try.underlying0
  a0 := Try.isAgg0
  z0 := Try.sizeOf0
  v0 := Try.zeroValue0
  t3 := Try.underlying3
  a3 := Try.isAgg3
  z3 := Try.sizeOf3
  v3 := Try.zeroValue3
  t4 := Try.underlying4
  a4 := Try.isAgg4
  z4 := Try.sizeOf4
  v4 := Try.zeroValue4
  t9 := Try.underlying9
  a9 := Try.isAgg9
  z9 := Try.sizeOf9
  v9 := Try.zeroValue9
  t20 := Try.underlying20
  a20 := Try.isAgg20
  z20 := Try.sizeOf20
  v20 := Try.zeroValue20
  t22 := Try.underlying22
  a22 := Try.isAgg22
  z22 := Try.sizeOf22
  v22 := Try.zeroValue22
}
set_option maxRecDepth 20000 in
theorem growCalls : GrowCalls := by
  intro w n h0 hn
  have hz3 := ze3
  obtain ⟨_,i,z,hinf,hz,hzz,_,hsz,hby⟩ := elB_eq el22
  have hz' : z = .int .i64 0 := by
    unfold zCD at hz3
    rw [hz,hinf] at hz3
    simp only [hzz] at hz3
    exact Option.some.inj hz3
  subst hz'
  have h := Any8.slices_Grow_grow growLays i (.int .i64 0) hinf hzz (by omega) none 0 0 n [] w (Nat.le_refl _) (by omega) (by rw [hby]; omega) (by omega) (by simp) (fun _ => rfl) (fun a ha => by cases ha)
  simp only [Nat.zero_add,Nat.sub_zero] at h
  refine h.mono fun e w' ⟨h1,h2⟩ => ⟨h1,?_⟩
  rw [h2]
  show w.drew.alloc (.cells (#[] ++ _ ++ _) 3) = _
  rw [Array.empty_append]
  rfl
end Go.Proofs.Ytdaljohmfnfgiaa
namespace Go.Proofs.Ytdaljohmfnfgiaa
section
open Go Go.RowKit Go.Proofs.Ytdaljohmfnfgiaa.Canon
end
section
open Go.ChangeShapes Go.WideShapes Go.ChangeAt Go.RowKit Go.Proofs.Ytdaljohmfnfgiaa.Canon
open Go.Deep (open_slice_pairs open_slice)
end
end Go.Proofs.Ytdaljohmfnfgiaa
namespace Go.Proofs.Ytdaljohmfnfgiaa
section
open Go Go.RowKit Go.Proofs.Ytdaljohmfnfgiaa.Canon
theorem scanned_any (hcons : ConsOK) {W : World} {na : Option Addr} {nn nc : Nat} (h1 : ∀ x,na = some x → x.spot = none) (k1 : BysW W na nn) (hnn : nn < 9223372036854775808) {n more : Nat} (hmore : more < 256) (hn16 : n < 65536) :
    Calls Try.prog 12 #[.slice na nn nc,.int .u8 (more : Int),.int .u16 (n : Int)] W (fun e w' => e = .returned (.bool true) ∧ Below W.heap.size W w') := by
  obtain ⟨A,hA⟩ := in_any W (W.heap.size + 1 + blkOf na) (by omega) (by omega)
  refine calls_of_conF (t := 6) Try.func12 rfl hA (xs := [.slice na nn nc,.int .u8 (more : Int),.int .u16 (n : Int)]) ?_
    (law_scanned hcons hA.wf (k1.bys hA) hnn hmore hn16)
  exact ((AR.single (inP_v (roV_slice h1 (by omega)))).push (.int .u8 (more : Int))).push (.int .u16 (n : Int))
end
section
open Go.ChangeShapes Go.WideShapes Go.ChangeAt Go.RowKit Go.Proofs.Ytdaljohmfnfgiaa.Canon
open Go.Deep (open_slice_pairs open_slice)
set_option maxRecDepth 100000 in
theorem lassoScanned_lifted (os : Os) (started : os.Started) (H : Type) (enc : TypeId × Value → H) :
    ReturnsInHanded {} Try.checked os 12 .any (Rows.lassoScannedSpec.pre6 enc Try.prog Try.f12 Rows.lassoScannedRow.domain false) (Rows.lassoScannedSpec.post enc Try.prog Try.f12 false true false false) := by
  refine returnsInHanded_of_change (C := Try.checked) Try.own started (by kernel_rfl) Try.func12
    (ChangeSpec.witness6 (enc := enc) (C := Try.checked) false ⟨#[],#[.slice none 0 0,.int .u8 0,.int .u16 0],[]⟩ 8 (by kernel_rfl) (by kernel_rfl) (by kernel_rfl) (by kernel_rfl)) ?_
  intro W base args ds gs before hval0 hW hcnd _
  have hval : ∀ (j : Nat) t v,Try.f12.params[j]? = some t → args[j]? = some v → Value.okWide Try.prog W .any base t v := hval0
  have hW' := hW
  obtain ⟨p,q,hA0,hV,rfl,hfz,hnd⟩ := hW
  have hA : DataW.TrodAll enc Try.prog W 0 (fun _ => true) true Try.f12.params.toList args.toList ds p := hA0
  rw [Try.params12] at hA hval
  obtain ⟨v0,v1,v2,d0,d1,d2,p0,p1,p2,rfl,rfl,rfl,h0,h1,h2⟩ := trodAll_three hA
  obtain ⟨rfl,rfl⟩ := trodVars_none hV
  obtain ⟨na,nn,nc,rfl,hk⟩ := val_bytes (hval 0 55 v0 rfl rfl)
  obtain ⟨hnn,i1⟩ : nn < 9223372036854775808 ∧ BysW W na nn := by
    obtain ⟨fuel,hf⟩ := h0
    exact bytes_trod hf hk
  obtain ⟨more,rfl,rfl,rfl,hw1⟩ := open_int Try.underlying5 (hval 1 5 v1 rfl rfl) h1
  obtain ⟨n,rfl,rfl,rfl,hw2⟩ := open_int Try.underlying64 (hval 2 64 v2 rfl rfl) h2
  obtain ⟨more,rfl,b1⟩ := lit_u8 hw1
  obtain ⟨n,rfl,b2⟩ := lit_u16 hw2
  clear hA0 hval0
  simp only [List.append_nil] at hW'
  have hplace : ∀ p ∈ p0,p.block < W.heap.size := fun p hp => by simpa using hW'.lt p hp
  refine (scanned_any (cons_of_grow (grow_of_calls growCalls)) (nc := nc) hk i1 hnn b1 b2).mono fun e W' ⟨he,hb⟩ => ?_
  subst he
  have harg0 : ∀ sp : Nat → Bool,(∀ p ∈ p0,sp p.block = true) → DataW.Trod enc Try.prog W' 0 sp true 55 (.slice na nn nc) d0 p0 := fun sp hsp =>
    WideElems.Trod_stays Try.laidOut (by kernel_rfl) (of_decide_eq_true (by kernel_rfl)) h0 (fun x hx => hb.same (hplace x hx)) (fun x hx => hsp x hx)
  refine ⟨_,rfl,post_of_below (pa := p0) (pv := []) hW' (fun _ _ _ => trodAll_mk1 (shut_bool Try.underlying4 _)) (fun sp hsp => ?_) (fun _ _ => rfl) (by simp) hb (ok_one (by kernel_rfl) rfl (okWide_bool_mk Try.underlying4 _))⟩
  have hall : DataW.TrodAll enc Try.prog W' 0 sp true [55,5,64] [.slice na nn nc,.int .u8 (more : Int),.int .u16 (n : Int)] [d0,.lit (.int .u8 (more : Int)),.lit (.int .u16 (n : Int))] (p0 ++ ([] ++ [])) :=
    trodAll_mk3 (harg0 sp hsp) (shut_int Try.underlying5 hw1) (shut_int Try.underlying64 hw2)
  simp only [List.append_nil] at hall
  exact hall
theorem lassoScanned_holds : Rows.LassoScannedSaid :=
  OpenClaim.holds_of_wide 12 Try.f12 rfl rfl rfl rfl rfl rfl rfl ⟨rfl,rfl,rfl,rfl,rfl⟩ rfl rfl rfl rfl rfl (by kernel_rfl) Try.func12 (by kernel_rfl)
    (of_decide_eq_true (by kernel_rfl)) (by unfold Func.isWrapper; first | (rw [if_pos (by decide +kernel)]; kernel_rfl) | (rw [if_neg (by decide +kernel)]; exact ⟨rfl,rfl⟩))
    (fun os started H enc _ => lassoScanned_lifted os started H enc)
end
end Go.Proofs.Ytdaljohmfnfgiaa
