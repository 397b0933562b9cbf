/- LassoConvolvesSaid: the law returns true for every input, and each argument reads afterwards as it read before. No condition. -/
import Derived.Test.YtdaljohmfnfgiaaXb
namespace Go.Proofs.Ytdaljohmfnfgiaa
open Go Go.RowKit Go.Proofs.Ytdaljohmfnfgiaa.Canon
set_option maxRecDepth 20000
theorem at_str {A : AHeap} (hw : WF A) {x : Las} (hox : x.ok A) (n : Nat) (hro : 0 < x.ro.length) (hn : n < 9223372036854775808) :
    Con Try.prog 77 [x.v,.int .i64 (n : Int)] A (fun v A1 => v = .int .i64 (x.s n) ∧ Nx A.next A A1) := at_stream hw hox.1 hox.2.1 n hox.2.2.1 hro hox.2.2.2 hn
def prS (w : Int) : Canon.Spec := fun _ _ A v A1 => v = .int .i64 w ∧ Nx A.next A A1
theorem prod_run {G : AHeap} (hw : WF G) {p14 p12 p7 bE L n : Nat} {m : Int} {E : Nat → Int} {y : Las} (h14 : cl G p14 0 = some (.slice (some ⟨bE,0,none⟩) L L)) (hE : ∀ i,i < L → cl G bE i = some (.int .i64 (E i))) (hY : Hs G p12 y) (h7 : cl G p7 0 = some (.int .i64 m))
    (l14 : p14 < G.next) (l7 : p7 < G.next) (lE : bE < G.next) (hm : 2 ≤ m ∧ m ≤ 65521) (hEl : ∀ i,0 ≤ E i ∧ E i < m) (hyl : ∀ i,0 ≤ y.s i ∧ y.s i < m) (hy0 : 0 < y.ro.length) (hL : L ≤ 1000) (hn : n < 1000000) :
    Con Try.prog 93 [.int .i64 (n : Int),.pointer (some ⟨p14,0,none⟩),.pointer (some ⟨p12,0,none⟩),.pointer (some ⟨p7,0,none⟩)] G (fun v G1 => v = .int .i64 (cvM m E y.s n (min (n + 1) L) % m) ∧ Nx G.next G G1) := by
  refine zAF hc Try.func93 rfl (Nat.le_of_ble_eq_true rfl) ?_
  have hw1 : IntKind.i64.wrap ((n : Int) + 1) = ((n + 1 : Nat) : Int) := by rw [IntWalk.i64_in _ (by omega)]; omega
  obtain ⟨k0,hk0⟩ : ∃ k : Nat,k = min (n + 1) L := ⟨_,rfl⟩
  have hmin : min ((n + 1 : Nat) : Int) (L : Int) = (k0 : Int) := by omega
  rw [← hk0]
  rw [s_in4]
  (repeat (first | refine Rn.seq hc ?_ | refine Rn.skip hc ?_ | refine Rn.block hc ?_ | refine Rn.inBlock hc ?_ | refine Rn.scope hc ?_ | refine Rn.inScope hc ?_))
  refine Rn.reg hc rfl ?_
  simp only [zAS,gd,zAX,rops,fx,zOi,zEl,show Try.f93.ntmps = 36 from rfl]
  (repeat (first | refine Rn.seq hc ?_ | refine Rn.skip hc ?_ | refine Rn.block hc ?_ | refine Rn.inBlock hc ?_ | refine Rn.scope hc ?_ | refine Rn.inScope hc ?_))
  refine Rn.reg hc rfl ?_
  simp only [zAS,gd,zAX,rops,fx,zOi,zEl]
  (repeat (first | refine Rn.seq hc ?_ | refine Rn.skip hc ?_ | refine Rn.block hc ?_ | refine Rn.inBlock hc ?_ | refine Rn.scope hc ?_ | refine Rn.inScope hc ?_))
  refine Rn.reg hc rfl ?_
  simp only [zAY,zAS,zAU,zAT,sp_n,Nat.reduceLT,ne_eq,Nat.reduceEqDiff,zNf,gd,zAX,rops,fx,ld,lng,zAH,zAR,zOi,zEl,tk22,un22,h14,hw1,ae_mnd,mnd_int,hmin]
  (repeat (first | refine Rn.seq hc ?_ | refine Rn.skip hc ?_ | refine Rn.block hc ?_ | refine Rn.inBlock hc ?_ | refine Rn.scope hc ?_ | refine Rn.inScope hc ?_))
  refine Rn.zDY hc (I := fun k s H => ∃ i : Nat,i ≤ k0 ∧ k = k0 - i ∧ Nx G.next G H ∧ s.n = 36 ∧ sget s 0 = .int .i64 (n : Int) ∧ sget s 1 = .pointer (some ⟨p14,0,none⟩) ∧ sget s 2 = .pointer (some ⟨p12,0,none⟩) ∧ sget s 3 = .pointer (some ⟨p7,0,none⟩) ∧ sget s 6 = .int .i64 (cvM m E y.s n i) ∧ sget s 12 = .int .i64 (k0 : Int) ∧ sget s 13 = .int .i64 (i : Int))
    (n := k0) ⟨0,by omega,rfl,Nx.refl hw _,by simp only [sp_n],by simp only [zAU,zAT,Nat.reduceLT,ne_eq,Nat.reduceEqDiff,zNf],by simp only [zAU,zAT,sp_n,Nat.reduceLT,ne_eq,Nat.reduceEqDiff,zNf],by simp only [zAU,zAT,sp_n,Nat.reduceLT,ne_eq,Nat.reduceEqDiff,zNf],by simp only [zAU,zAT,sp_n,Nat.reduceLT,ne_eq,Nat.reduceEqDiff,zNf],by simp only [zAU,zAT,sp_n,Nat.reduceLT,ne_eq,Nat.reduceEqDiff,zNf]; rfl,by simp only [zAU,zAT,sp_n,Nat.reduceLT,ne_eq,Nat.reduceEqDiff,zNf],by simp only [zAU,sp_n,Nat.reduceLT]; rfl⟩ ?_
  rintro k s H ⟨i,hi,rfl,hH,hn',s0,s1,s2,s3,s6,s12,s13⟩ ih
  have nH := hH.next
  have hYH := hY.nx hH
  have z14 := (hH.cl l14 0).trans h14
  have z7 := (hH.cl l7 0).trans h7
  have hlim := cvM_lim (show (0 : Int) < m by omega) (a := E) (b := y.s) (n := n) i
  have him : (i : Int) * m ≤ 1000 * 65521 := Int.mul_le_mul (by omega) hm.2 (by omega) (by omega)
  (repeat (first | refine Rn.seq hc ?_ | refine Rn.skip hc ?_ | refine Rn.block hc ?_ | refine Rn.inBlock hc ?_ | refine Rn.scope hc ?_ | refine Rn.inScope hc ?_))
  by_cases hlt : i < k0
  · have hd : decide ((i : Int) < (k0 : Int)) = true := decide_eq_true (by omega)
    have hiL : i < L := by omega
    have zE := (hH.cl lE i).trans (hE i hiL)
    obtain ⟨F,hFb,hF⟩ : ∃ F : AHeap → Prop,(∀ M,F M → ∀ b,b < H.next → ∀ o,cl M b o = cl H b o) ∧ (∀ M,Nx H.next H M → F M) := ⟨fun M => Nx H.next H M,fun M h b hb o => h.cl hb o,fun _ h => h⟩
    have Y0 := fun M hM => (hFb M hM _ hYH.lt 0).trans hYH.c0
    have Y1 := fun M hM => (hFb M hM _ hYH.lt 1).trans hYH.c1
    have Y2 := fun M hM => (hFb M hM _ hYH.lt 2).trans hYH.c2
    have Z14 := fun M hM => (hFb M hM p14 (by omega) 0).trans z14
    have Z7 := fun M hM => (hFb M hM p7 (by omega) 0).trans z7
    have ZE := fun M hM => (hFb M hM bE (by omega) i).trans zE
    have hbk : Nx H.next H (bump H 16) := Nx.bump (Nx.refl hH.wf _) 16
    have FB := hF _ hbk
    have okY := hYH.ok.nx hbk
    have he := hEl i
    have hy := hyl (n - i)
    have hmul := mul_lim he.1 (show E i < 65536 by omega) hy.1 (show y.s (n - i) < 65536 by omega)
    have hws : IntKind.i64.wrap ((n : Int) - (i : Int)) = ((n - i : Nat) : Int) := by rw [IntWalk.i64_in _ (by omega)]; omega
    have hwm : IntKind.i64.wrap (E i * y.s (n - i)) = E i * y.s (n - i) := IntWalk.i64_in _ ⟨by omega,by omega⟩
    have hr : ∀ M,bin Try.prog .rem 3 (.int .i64 (E i * y.s (n - i))) (.int .i64 m) M = some (.int .i64 ((E i * y.s (n - i)) % m),M) := fun M => by
      rw [zCS _ _ _ _ (by omega),Int.tmod_eq_emod_of_nonneg hmul.1]
    have hq := Int.emod_nonneg (E i * y.s (n - i)) (show m ≠ 0 by omega)
    have hq2 := Int.emod_lt_of_pos (E i * y.s (n - i)) (show (0 : Int) < m by omega)
    have hwa : IntKind.i64.wrap (cvM m E y.s n i + (E i * y.s (n - i)) % m) = cvM m E y.s n (i + 1) := IntWalk.i64_in _ ⟨by omega,by omega⟩
    refine Rn.reg hc rfl ?_
    simp only [zAY,gd,zAX,rops,fx,zAN,zOi,zEl,s12,s13,hd]
    (repeat (first | refine Rn.seq hc ?_ | refine Rn.skip hc ?_ | refine Rn.block hc ?_ | refine Rn.inBlock hc ?_ | refine Rn.scope hc ?_ | refine Rn.inScope hc ?_))
    refine Rn.zAM hc rfl ?_
    simp only [zAY,zAU,Nat.reduceLT,Value.bool.injEq,zEl,hn']
    (repeat (first | refine Rn.seq hc ?_ | refine Rn.skip hc ?_ | refine Rn.block hc ?_ | refine Rn.inBlock hc ?_ | refine Rn.scope hc ?_ | refine Rn.inScope hc ?_))
    refine Rn.reg hc rfl ?_
    simp only [zAY,zAU,zAT,sp_n,Nat.reduceLT,ne_eq,Nat.reduceEqDiff,zNf,gd,zAX,rops,fx,zOi,zEl,hn',s13]
    (repeat (first | refine Rn.seq hc ?_ | refine Rn.skip hc ?_ | refine Rn.block hc ?_ | refine Rn.inBlock hc ?_ | refine Rn.scope hc ?_ | refine Rn.inScope hc ?_))
    refine Rn.drawnF hc hx (prS (y.s (n - i))) F (n := 1) (k := 16) (by kernel_rfl) (by kernel_rfl) (by rfl) ?_
    refine Dr.read (by first | rfl | kernel_rfl) (by rfl) (by assumption) (fun M hM => by simp only [zAY,zAT,ne_eq,Nat.reduceEqDiff,zNf,fx,s6] <;> rfl) (by rfl) (by first | exact VQ.int _ _ | exact VQ.bool _ | exact VQ.ptr _ _ | exact VQ.slice _ _ _ | exact VQ.func (by simp [zAW,zAV,zAZ]) (by simp [zAW,zAV,zAZ]) | exact VQ.agg (by simp [zAW,zAV,zAZ]) | exact VQ.tuple (by simp [zAW,zAV,zAZ])) ?_
    refine Dr.read (by first | rfl | kernel_rfl) (by rfl) (by assumption) (fun M hM => by simp only [zAY,zAT,ne_eq,Nat.reduceEqDiff,zNf,fx,ld,zAR,tk22,s1,Z14 M hM] <;> rfl) (by rfl) (by first | exact VQ.int _ _ | exact VQ.bool _ | exact VQ.ptr _ _ | exact VQ.slice _ _ _ | exact VQ.func (by simp [zAW,zAV,zAZ]) (by simp [zAW,zAV,zAZ]) | exact VQ.agg (by simp [zAW,zAV,zAZ]) | exact VQ.tuple (by simp [zAW,zAV,zAZ])) ?_
    refine Dr.read (by first | rfl | kernel_rfl) (by rfl) (by assumption) (fun M hM => by simp only [zAY,zAU,zAT,sp_n,Nat.reduceLT,ne_eq,Nat.reduceEqDiff,zNf,fx,hn'] <;> rfl) (by rfl) (by first | exact VQ.int _ _ | exact VQ.bool _ | exact VQ.ptr _ _ | exact VQ.slice _ _ _ | exact VQ.func (by simp [zAW,zAV,zAZ]) (by simp [zAW,zAV,zAZ]) | exact VQ.agg (by simp [zAW,zAV,zAZ]) | exact VQ.tuple (by simp [zAW,zAV,zAZ])) ?_
    refine Dr.read (by first | rfl | kernel_rfl) (by rfl) (by assumption) (fun M hM => by simp only [zAY,zAU,zAT,sp_n,Nat.reduceLT,ne_eq,Nat.reduceEqDiff,zNf,fx,idx,Nat.zero_add,Nat.mul_one,eo22,hn',zAQ hiL] <;> rfl) (by rfl) (by first | exact VQ.int _ _ | exact VQ.bool _ | exact VQ.ptr _ _ | exact VQ.slice _ _ _ | exact VQ.func (by simp [zAW,zAV,zAZ]) (by simp [zAW,zAV,zAZ]) | exact VQ.agg (by simp [zAW,zAV,zAZ]) | exact VQ.tuple (by simp [zAW,zAV,zAZ])) ?_
    refine Dr.read (by first | rfl | kernel_rfl) (by rfl) (by assumption) (fun M hM => by simp only [zAY,zAU,sp_n,Nat.reduceLT,fx,ld,zAR,tk3,hn',ZE M hM] <;> rfl) (by rfl) (by first | exact VQ.int _ _ | exact VQ.bool _ | exact VQ.ptr _ _ | exact VQ.slice _ _ _ | exact VQ.func (by simp [zAW,zAV,zAZ]) (by simp [zAW,zAV,zAZ]) | exact VQ.agg (by simp [zAW,zAV,zAZ]) | exact VQ.tuple (by simp [zAW,zAV,zAZ])) ?_
    refine Dr.read (by first | rfl | kernel_rfl) (by rfl) (by assumption) (fun M hM => by simp only [zAY,zAT,ne_eq,Nat.reduceEqDiff,zNf,fx,ld,zAR,cls,Nat.zero_add,Nat.reduceAdd,tk86,s2,Y0 M hM,Y1 M hM,Y2 M hM] <;> rfl) (by rfl) (by first | exact VQ.int _ _ | exact VQ.bool _ | exact VQ.ptr _ _ | exact VQ.slice _ _ _ | exact VQ.func (by simp [zAW,zAV,zAZ]) (by simp [zAW,zAV,zAZ]) | exact VQ.agg (by simp [zAW,zAZ]) | exact VQ.tuple (by simp [zAW,zAV,zAZ])) ?_
    refine Dr.read (by first | rfl | kernel_rfl) (by rfl) (by assumption) (fun M hM => by simp only [zAY,zAT,ne_eq,Nat.reduceEqDiff,zNf,fx,s0] <;> rfl) (by rfl) (by first | exact VQ.int _ _ | exact VQ.bool _ | exact VQ.ptr _ _ | exact VQ.slice _ _ _ | exact VQ.func (by simp [zAW,zAV,zAZ]) (by simp [zAW,zAV,zAZ]) | exact VQ.agg (by simp [zAW,zAV,zAZ]) | exact VQ.tuple (by simp [zAW,zAV,zAZ])) ?_
    refine Dr.read (by first | rfl | kernel_rfl) (by rfl) (by assumption) (fun M hM => by simp only [zAY,zAU,zAT,sp_n,Nat.reduceLT,ne_eq,Nat.reduceEqDiff,zNf,fx,hn'] <;> rfl) (by rfl) (by first | exact VQ.int _ _ | exact VQ.bool _ | exact VQ.ptr _ _ | exact VQ.slice _ _ _ | exact VQ.func (by simp [zAW,zAV,zAZ]) (by simp [zAW,zAV,zAZ]) | exact VQ.agg (by simp [zAW,zAV,zAZ]) | exact VQ.tuple (by simp [zAW,zAV,zAZ])) ?_
    refine Dr.read (by first | rfl | kernel_rfl) (by rfl) (by assumption) (fun M hM => by simp only [zAY,zAU,zAT,sp_n,Nat.reduceLT,ne_eq,Nat.reduceEqDiff,zNf,fx,zBR,hn',hws] <;> rfl) (by rfl) (by first | exact VQ.int _ _ | exact VQ.bool _ | exact VQ.ptr _ _ | exact VQ.slice _ _ _ | exact VQ.func (by simp [zAW,zAV,zAZ]) (by simp [zAW,zAV,zAZ]) | exact VQ.agg (by simp [zAW,zAV,zAZ]) | exact VQ.tuple (by simp [zAW,zAV,zAZ])) ?_
    refine Dr.call (by kernel_rfl) (by rfl) (by assumption) (by rfl) (zAA (by rfl) ⟨by rfl,by rfl⟩ (by rfl) (xs := [y.v,.int .i64 ((n - i : Nat) : Int)]) (by simp only [zAY,zAU,zAT,sp_n,Nat.reduceLT,ne_eq,Nat.reduceEqDiff,zNf,List.map_cons,List.map_nil,List.nil_append,List.append_nil,hn',Las.v]) (at_str hbk.wf okY (n - i) hy0 (by omega))) ?_
    rintro v M1 ⟨rfl,k1⟩
    have hM1 : Nx H.next H M1 := hbk.trans (k1.le hbk.next)
    have F1 := hF _ hM1
    refine Dr.read (by first | rfl | kernel_rfl) (by rfl) (by assumption) (fun M hM => by simp only [zAY,zAU,zAT,sp_n,Nat.reduceLT,ne_eq,Nat.reduceEqDiff,zNf,fx,bin_mul,hn',hwm] <;> rfl) (by rfl) (by first | exact VQ.int _ _ | exact VQ.bool _ | exact VQ.ptr _ _ | exact VQ.slice _ _ _ | exact VQ.func (by simp [zAW,zAV,zAZ]) (by simp [zAW,zAV,zAZ]) | exact VQ.agg (by simp [zAW,zAV,zAZ]) | exact VQ.tuple (by simp [zAW,zAV,zAZ])) ?_
    refine Dr.read (by first | rfl | kernel_rfl) (by rfl) (by assumption) (fun M hM => by simp only [zAY,zAT,ne_eq,Nat.reduceEqDiff,zNf,fx,fad,zAR,Nat.add_zero,zBJ,s3] <;> rfl) (by rfl) (by first | exact VQ.int _ _ | exact VQ.bool _ | exact VQ.ptr _ _ | exact VQ.slice _ _ _ | exact VQ.func (by simp [zAW,zAV,zAZ]) (by simp [zAW,zAV,zAZ]) | exact VQ.agg (by simp [zAW,zAV,zAZ]) | exact VQ.tuple (by simp [zAW,zAV,zAZ])) ?_
    refine Dr.read (by first | rfl | kernel_rfl) (by rfl) (by assumption) (fun M hM => by simp only [zAY,zAU,sp_n,Nat.reduceLT,fx,ld,zAR,tk3,hn',Z7 M hM] <;> rfl) (by rfl) (by first | exact VQ.int _ _ | exact VQ.bool _ | exact VQ.ptr _ _ | exact VQ.slice _ _ _ | exact VQ.func (by simp [zAW,zAV,zAZ]) (by simp [zAW,zAV,zAZ]) | exact VQ.agg (by simp [zAW,zAV,zAZ]) | exact VQ.tuple (by simp [zAW,zAV,zAZ])) ?_
    refine Dr.read (by first | rfl | kernel_rfl) (by rfl) (by assumption) (fun M hM => by simp only [zAY,zAU,zAT,sp_n,Nat.reduceLT,ne_eq,Nat.reduceEqDiff,zNf,fx,hn',hr] <;> rfl) (by rfl) (by first | exact VQ.int _ _ | exact VQ.bool _ | exact VQ.ptr _ _ | exact VQ.slice _ _ _ | exact VQ.func (by simp [zAW,zAV,zAZ]) (by simp [zAW,zAV,zAZ]) | exact VQ.agg (by simp [zAW,zAV,zAZ]) | exact VQ.tuple (by simp [zAW,zAV,zAZ])) ?_
    refine Dr.read (by first | rfl | kernel_rfl) (by rfl) (by assumption) (fun M hM => by simp only [zAY,zAU,zAT,sp_n,Nat.reduceLT,ne_eq,Nat.reduceEqDiff,zNf,fx,zAH,hn',hwa] <;> rfl) (by rfl) (by first | exact VQ.int _ _ | exact VQ.bool _ | exact VQ.ptr _ _ | exact VQ.slice _ _ _ | exact VQ.func (by simp [zAW,zAV,zAZ]) (by simp [zAW,zAV,zAZ]) | exact VQ.agg (by simp [zAW,zAV,zAZ]) | exact VQ.tuple (by simp [zAW,zAV,zAZ])) ?_
    refine Dr.read (by first | rfl | kernel_rfl) (by rfl) (by assumption) (fun M hM => by simp only [zAY,zAU,sp_n,Nat.reduceLT,fx,hn'] <;> rfl) (by rfl) (by first | exact VQ.int _ _ | exact VQ.bool _ | exact VQ.ptr _ _ | exact VQ.slice _ _ _ | exact VQ.func (by simp [zAW,zAV,zAZ]) (by simp [zAW,zAV,zAZ]) | exact VQ.agg (by simp [zAW,zAV,zAZ]) | exact VQ.tuple (by simp [zAW,zAV,zAZ])) ?_
    refine Dr.nil (by rfl) (fun M hM => by cases hM) F1 ⟨M1,by rfl,?_⟩
    (repeat (first | refine Rn.seq hc ?_ | refine Rn.skip hc ?_ | refine Rn.block hc ?_ | refine Rn.inBlock hc ?_ | refine Rn.scope hc ?_ | refine Rn.inScope hc ?_))
    refine Rn.reg hc rfl ?_
    simp only [zAY,zAS,zAU,zAT,sp_n,Nat.reduceLT,ne_eq,Nat.reduceEqDiff,zNf,gd,zAX,rops,fx,zAH,zOi,zEl,hn',s13,zBZ (show i < 9223372036854775807 by omega)]
    (repeat (first | refine Rn.seq hc ?_ | refine Rn.skip hc ?_ | refine Rn.block hc ?_ | refine Rn.inBlock hc ?_ | refine Rn.scope hc ?_ | refine Rn.inScope hc ?_))
    exact ih _ _ _ (by omega) ⟨i + 1,by omega,rfl,hH.trans (hM1.le nH),by simp only [sp_n,hn'],by simp only [zAT,ne_eq,Nat.reduceEqDiff,zNf,s0],by simp only [zAT,ne_eq,Nat.reduceEqDiff,zNf,s1],by simp only [zAT,ne_eq,Nat.reduceEqDiff,zNf,s2],by simp only [zAT,ne_eq,Nat.reduceEqDiff,zNf,s3],by simp only [zAU,zAT,sp_n,Nat.reduceLT,ne_eq,Nat.reduceEqDiff,zNf,hn'],by simp only [zAT,ne_eq,Nat.reduceEqDiff,zNf,s12],by simp only [zAU,sp_n,Nat.reduceLT,hn']⟩
  · have hd : decide ((i : Int) < (k0 : Int)) = false := decide_eq_false (by omega)
    have hik : i = k0 := by omega
    rw [hik] at s6 hlim
    clear ih
    have hr : ∀ M,bin Try.prog .rem 3 (.int .i64 (cvM m E y.s n k0)) (.int .i64 m) M = some (.int .i64 (cvM m E y.s n k0 % m),M) := fun M => by
      rw [zCS _ _ _ _ (by omega),Int.tmod_eq_emod_of_nonneg hlim.1]
    refine Rn.reg hc rfl ?_
    simp only [zAY,gd,zAX,rops,fx,zAN,zOi,zEl,s12,s13,hd]
    (repeat (first | refine Rn.seq hc ?_ | refine Rn.skip hc ?_ | refine Rn.block hc ?_ | refine Rn.inBlock hc ?_ | refine Rn.scope hc ?_ | refine Rn.inScope hc ?_))
    refine Rn.zAM hc rfl ?_
    simp only [zAY,zAU,Nat.reduceLT,Value.bool.injEq,zEl,hn']
    (repeat (first | refine Rn.seq hc ?_ | refine Rn.skip hc ?_ | refine Rn.block hc ?_ | refine Rn.inBlock hc ?_ | refine Rn.scope hc ?_ | refine Rn.inScope hc ?_))
    refine Rn.exit hc rfl ?_
    (repeat (first | refine Rn.seq hc ?_ | refine Rn.skip hc ?_ | refine Rn.block hc ?_ | refine Rn.inBlock hc ?_ | refine Rn.scope hc ?_ | refine Rn.inScope hc ?_))
    refine Rn.reg hc rfl ?_
    simp only [zAY,zAU,zAT,sp_n,Nat.reduceLT,ne_eq,Nat.reduceEqDiff,zNf,gd,zAX,rops,fx,ld,fad,zAR,Nat.add_zero,zOi,zEl,tk3,zBJ,hn',s3,s6,z7,hr]
    (repeat (first | refine Rn.seq hc ?_ | refine Rn.skip hc ?_ | refine Rn.block hc ?_ | refine Rn.inBlock hc ?_ | refine Rn.scope hc ?_ | refine Rn.inScope hc ?_))
    refine Rn.ret (zAO rfl ⟨?_,hH⟩)
    simp only [zAU,sp_n,Nat.reduceLT,hn']
end Go.Proofs.Ytdaljohmfnfgiaa
namespace Go.Proofs.Ytdaljohmfnfgiaa
open Go Go.RowKit Go.Proofs.Ytdaljohmfnfgiaa.Canon
set_option maxRecDepth 20000
theorem fbal86 {ρ : Operand → Value} {d : Option Tmp} {ty : TypeId} {pos : String} {af : Array Edge} {gu : Option (Nat × Bool)} : fobj Try.prog ρ ⟨d,.alloc 86,ty,pos,af,gu⟩ = some ⟨[.int .i64 0,.slice none 0 0,.slice none 0 0],86,.ptr⟩ := by
  simp only [fobj,ze86]
  rfl
theorem cv_end {A C : AHeap} (hA : Nx A.next A C) {bR b7 b9 bF R stem : Nat} {x y : Las} (lR : Canon.look C.objs bR = some ⟨.cells #[.int .i64 0,.slice none 0 0,.slice none 0 0] 24,false,0⟩) (hR : A.next ≤ bR) (hRC : bR < C.next) (h7 : Hs C b7 x) (h9 : Hs C b9 y) {c : Array Value} (lF : Canon.look C.objs bF = some ⟨.cells c 3,false,0⟩) {P : Nat → Int} (hP : Per P stem y.ro.length) (hPl : ∀ n,0 ≤ P n ∧ P n < x.m)
    (hcv : ∀ j,j < stem + y.ro.length → c[j]? = some (.int .i64 (P j))) (hm : 2 ≤ x.m ∧ x.m ≤ 65521) (hst : stem ≤ 1000) (hy : 1 ≤ y.ro.length ∧ y.ro.length ≤ 120) (hRR : 1 ≤ R ∧ R ≤ 120)
    {s : Slots} (hn : s.n = 129) (s4 : sget s 4 = .pointer (some ⟨bR,0,none⟩)) (s7 : sget s 7 = .pointer (some ⟨b7,0,none⟩)) (s9 : sget s 9 = .pointer (some ⟨b9,0,none⟩)) (s13 : sget s 13 = .int .i64 (R : Int)) (s17 : sget s 17 = .int .i64 (stem : Int)) (s18 : sget s 18 = .slice (some ⟨bF,0,none⟩) (stem + y.ro.length) (stem + y.ro.length)) :
    Rn Try.prog 49 none [.code (restN 12 (Try.f49.body.getD .skip))] s [] C (endQ Try.prog Try.f49 (Tld A 0 x.m (scn x.m P R))) := by
  have hbF : bF < C.next := hA.wf _ _ lF
  have nC := hA.next
  obtain ⟨mn,hmn⟩ : ∃ k : Nat,x.m = (k : Int) := ⟨x.m.toNat,by omega⟩
  have hNs : stem + y.ro.length - stem = y.ro.length := Nat.add_sub_cancel_left _ _
  obtain ⟨F,hF1,hF2,hF3,hF⟩ : ∃ F : AHeap → Prop,(∀ M,F M → asl Try.prog 22 (.slice (some ⟨bF,0,none⟩) (stem + y.ro.length) (stem + y.ro.length)) none (some (.int .i64 (stem : Int))) none M = some (.slice (some ⟨bF,0,none⟩) stem (stem + y.ro.length),M)) ∧ (∀ M,F M → asl Try.prog 22 (.slice (some ⟨bF,0,none⟩) (stem + y.ro.length) (stem + y.ro.length)) (some (.int .i64 (stem : Int))) none none M = some (.slice (some ⟨bF,stem,none⟩) y.ro.length y.ro.length,M)) ∧ (∀ M,F M → cl M b7 0 = some (.int .i64 x.m)) ∧ (∀ M,(∀ b,b < C.next → Canon.look M.objs b = Canon.look C.objs b) → F M) :=
    ⟨fun M => ∀ b,b < C.next → Canon.look M.objs b = Canon.look C.objs b,fun M h => asl_hi0 ((h _ hbF).trans lF) rfl (by omega),fun M h => by rw [asl_lo0 ((h _ hbF).trans lF) rfl (by omega),hNs],fun M h => (zBW (h _ h7.lt)).trans h7.c0,fun M h => h⟩
  have hbk : Nx C.next C (bump C 12) := Nx.bump (Nx.refl hA.wf _) 12
  have FB : F (bump C 12) := hF _ fun b _ => rfl
  refine Rn.seq hc ?_
  refine Rn.drawnL hc hx noS F (E := [10]) (n := 11) (k := 12) (by kernel_rfl) (by kernel_rfl) (by rfl) (by kernel_rfl) ?_
  refine DrL.read (by first | rfl | kernel_rfl) (by rfl) (by assumption) (fun M hM => by simp only [zAY,fx,fad,zAR,Nat.add_zero,zBJ,s7] <;> rfl) (by rfl) (by first | exact VQ.int _ _ | exact VQ.bool _ | exact VQ.ptr _ _ | exact VQ.slice _ _ _ | exact VQ.func (by simp [zAW,zAV,zAZ]) (by simp [zAW,zAV,zAZ]) | exact VQ.agg (by simp [zAW,zAV,zAZ]) | exact VQ.tuple (by simp [zAW,zAV,zAZ])) ?_
  refine DrL.read (by first | rfl | kernel_rfl) (by rfl) (by assumption) (fun M hM => by simp only [zAY,zAU,Nat.reduceLT,fx,ld,zAR,tk3,hn,hF3 M hM] <;> rfl) (by rfl) (by first | exact VQ.int _ _ | exact VQ.bool _ | exact VQ.ptr _ _ | exact VQ.slice _ _ _ | exact VQ.func (by simp [zAW,zAV,zAZ]) (by simp [zAW,zAV,zAZ]) | exact VQ.agg (by simp [zAW,zAV,zAZ]) | exact VQ.tuple (by simp [zAW,zAV,zAZ])) ?_
  refine DrL.read (by first | rfl | kernel_rfl) (by rfl) (by assumption) (fun M hM => by simp only [zAY,zAT,ne_eq,Nat.reduceEqDiff,zNf,fx,s18] <;> rfl) (by rfl) (by first | exact VQ.int _ _ | exact VQ.bool _ | exact VQ.ptr _ _ | exact VQ.slice _ _ _ | exact VQ.func (by simp [zAW,zAV,zAZ]) (by simp [zAW,zAV,zAZ]) | exact VQ.agg (by simp [zAW,zAV,zAZ]) | exact VQ.tuple (by simp [zAW,zAV,zAZ])) ?_
  refine DrL.read (by first | rfl | kernel_rfl) (by rfl) (by assumption) (fun M hM => by simp only [zAY,zAT,ne_eq,Nat.reduceEqDiff,zNf,fx,s17] <;> rfl) (by rfl) (by first | exact VQ.int _ _ | exact VQ.bool _ | exact VQ.ptr _ _ | exact VQ.slice _ _ _ | exact VQ.func (by simp [zAW,zAV,zAZ]) (by simp [zAW,zAV,zAZ]) | exact VQ.agg (by simp [zAW,zAV,zAZ]) | exact VQ.tuple (by simp [zAW,zAV,zAZ])) ?_
  refine DrL.read (by first | rfl | kernel_rfl) (by rfl) (by assumption) (fun M hM => by simp only [zAY,zAU,zAT,sp_n,Nat.reduceLT,ne_eq,Nat.reduceEqDiff,zNf,fx,hn,ae_asl_hi,hF1 M hM] <;> rfl) (by rfl) (by first | exact VQ.int _ _ | exact VQ.bool _ | exact VQ.ptr _ _ | exact VQ.slice _ _ _ | exact VQ.func (by simp [zAW,zAV,zAZ]) (by simp [zAW,zAV,zAZ]) | exact VQ.agg (by simp [zAW,zAV,zAZ]) | exact VQ.tuple (by simp [zAW,zAV,zAZ])) ?_
  refine DrL.read (by first | rfl | kernel_rfl) (by rfl) (by assumption) (fun M hM => by simp only [zAY,zAT,ne_eq,Nat.reduceEqDiff,zNf,fx,s18] <;> rfl) (by rfl) (by first | exact VQ.int _ _ | exact VQ.bool _ | exact VQ.ptr _ _ | exact VQ.slice _ _ _ | exact VQ.func (by simp [zAW,zAV,zAZ]) (by simp [zAW,zAV,zAZ]) | exact VQ.agg (by simp [zAW,zAV,zAZ]) | exact VQ.tuple (by simp [zAW,zAV,zAZ])) ?_
  refine DrL.read (by first | rfl | kernel_rfl) (by rfl) (by assumption) (fun M hM => by simp only [zAY,zAT,ne_eq,Nat.reduceEqDiff,zNf,fx,s17] <;> rfl) (by rfl) (by first | exact VQ.int _ _ | exact VQ.bool _ | exact VQ.ptr _ _ | exact VQ.slice _ _ _ | exact VQ.func (by simp [zAW,zAV,zAZ]) (by simp [zAW,zAV,zAZ]) | exact VQ.agg (by simp [zAW,zAV,zAZ]) | exact VQ.tuple (by simp [zAW,zAV,zAZ])) ?_
  refine DrL.read (by first | rfl | kernel_rfl) (by rfl) (by assumption) (fun M hM => by simp only [zAY,zAU,zAT,sp_n,Nat.reduceLT,ne_eq,Nat.reduceEqDiff,zNf,fx,hn,ae_asl_lo,hF2 M hM] <;> rfl) (by rfl) (by first | exact VQ.int _ _ | exact VQ.bool _ | exact VQ.ptr _ _ | exact VQ.slice _ _ _ | exact VQ.func (by simp [zAW,zAV,zAZ]) (by simp [zAW,zAV,zAZ]) | exact VQ.agg (by simp [zAW,zAV,zAZ]) | exact VQ.tuple (by simp [zAW,zAV,zAZ])) ?_
  refine DrL.read (by first | rfl | kernel_rfl) (by rfl) (by assumption) (fun M hM => by simp only [zAY,zAU,zAT,sp_n,Nat.reduceLT,ne_eq,Nat.reduceEqDiff,zNf,fx,hn,bd24,zBY] <;> rfl) (by rfl) (by first | exact VQ.int _ _ | exact VQ.bool _ | exact VQ.ptr _ _ | exact VQ.slice _ _ _ | exact VQ.func (by simp [zAW,zAV,zAZ]) (by simp [zAW,zAV,zAZ]) | exact VQ.agg (by simp [zAW,zAZ]) | exact VQ.tuple (by simp [zAW,zAV,zAZ])) ?_
  refine DrL.read (by first | rfl | kernel_rfl) (by rfl) (by assumption) (fun M hM => by simp only [zAY,zAU,sp_n,Nat.reduceLT,fx,Nat.zero_add,Value.cells,Nat.reduceAdd,hn,bd86,List.size_toArray,List.length_cons,List.length_nil] <;> rfl) (by rfl) (by first | exact VQ.int _ _ | exact VQ.bool _ | exact VQ.ptr _ _ | exact VQ.slice _ _ _ | exact VQ.func (by simp [zAW,zAV,zAZ]) (by simp [zAW,zAV,zAZ]) | exact VQ.agg (by simp [zAW,zAZ]) | exact VQ.tuple (by simp [zAW,zAV,zAZ])) ?_
  refine DrL.float (by rfl) (by rfl) (by rfl) fbal86 ?_
  have hnb : Canon.look (bump C 12).objs (C.next + 10) = none := hA.wf.none (by omega)
  obtain ⟨C3,p3,w3,n3,l3,kp3⟩ := place_al hbk.wf (b := C.next + 10) (by rw [zAD]; omega) hnb [.int .i64 0,.slice none 0 0,.slice none 0 0] 86
  have F3 : F C3 := hF _ fun b hb => kp3 _ (by omega)
  obtain ⟨C4,c4,q1,q2,q3,q4⟩ := zCV (l := [.int .i64 x.m,.slice (some ⟨bF,0,none⟩) stem (stem + y.ro.length),.slice (some ⟨bF,stem,none⟩) y.ro.length y.ro.length]) (o := 0) l3 rfl (by simp) rfl
  refine DrL.eff (by rfl) (by rfl) (pd1 := [(10,⟨[.int .i64 0,.slice none 0 0,.slice none 0 0],86,.ptr⟩)]) (pd2 := []) (by kernel_rfl) (by kernel_rfl) (ms0 := [bump C 12]) (A0 := C3) (by simp only [zBU,p3]) (fun M hM => by rw [List.mem_singleton] at hM; rw [hM]; exact FB) F3 (by rfl)
    (v := undef) (A1 := C4) (zBQ rfl (fx_ok (by rfl) (by simp only [zAY,zAU,zAT,sp_n,Nat.reduceLT,ne_eq,Nat.reduceEqDiff,zNf,fx,str,zAR,Nat.zero_add,Nat.reduceAdd,tk86,hn,FK.val,q1,List.size_toArray,List.length_cons,List.length_nil,Nat.beq_refl]))) ?_
  refine DrL.nil ⟨by rfl,C4,by rfl,?_⟩
  have n4 := q2.next
  rw [zAD] at n3
  have hk4 : ∀ b,b < C.next → Canon.look C4.objs b = Canon.look C.objs b := fun b hb => by rw [q2.off _ (by omega),kp3 _ (by omega)]; rfl
  have hC4 : Nx C.next C C4 := ⟨by omega,(q2.nx w3 (Nat.zero_le _)).wf,hk4⟩
  have g0 : cl C4 (C.next + 10) 0 = some (.int .i64 x.m) := by rw [q2.cl,q4]; rfl
  have g1 : cl C4 (C.next + 10) 1 = some (.slice (some ⟨bF,0,none⟩) stem (stem + y.ro.length)) := by rw [q2.cl,q4]; rfl
  have g2 : cl C4 (C.next + 10) 2 = some (.slice (some ⟨bF,stem,none⟩) y.ro.length y.ro.length) := by rw [q2.cl,q4]; rfl
  have hcl : ∀ j,j < stem + y.ro.length → cl C4 bF j = some (.int .i64 (P j)) := fun j hj => by rw [zBW (hk4 _ hbF),zCE lF rfl]; exact hcv j hj
  obtain ⟨z,hz⟩ : ∃ z : Las,z = ⟨x.m,some ⟨bF,0,none⟩,stem + y.ro.length,redS P stem,some ⟨bF,stem,none⟩,y.ro.length,redR P stem y.ro.length⟩ := ⟨_,rfl⟩
  have zok : z.ok C4 := by
    rw [hz]
    refine ⟨fun j hj => ⟨bF,0,rfl,Nat.zero_le _,by omega,?_⟩,fun j hj => ⟨bF,stem,rfl,Nat.zero_le _,by omega,?_⟩,by show (redS P stem).length < _; rw [zAL]; omega,by show (redR P stem y.ro.length).length < _; rw [zAG]; omega⟩
    · have hj : j < (redS P stem).length := hj
      rw [zAL] at hj
      rw [Nat.zero_add,hcl j (by omega)]
      show _ = some (Value.int .i64 ((redS P stem).getD j 0))
      rw [zCD hj]
    · have hj : j < (redR P stem y.ro.length).length := hj
      rw [zAG] at hj
      rw [hcl _ (by omega)]
      show _ = some (Value.int .i64 ((redR P stem y.ro.length).getD j 0))
      rw [redR_get hj]
  have zs : z.s = P := by rw [hz]; exact zCC hP
  have z0 : 0 < z.ro.length := by
    rw [hz]
    show 0 < (redR P stem y.ro.length).length
    rw [zAG]
    omega
  have zv : z.v = .agg #[.int .i64 x.m,.slice (some ⟨bF,0,none⟩) stem (stem + y.ro.length),.slice (some ⟨bF,stem,none⟩) y.ro.length y.ro.length] := by
    rw [hz]
    show Value.agg #[_,.slice _ (redS P stem).length _,.slice _ (redR P stem y.ro.length).length _] = _
    rw [zAL,zAG]
  have hsm := summed_run hC4.wf (m := mn) (stem := stem) (round := y.ro.length) (step := R) (fi := z.v) (a := P) (by omega) hst hy hRR (fun n => by rw [← hmn]; exact hPl n) hP
    (fun D h n hn => by rw [← zs]; exact at_str h.wf (zok.nx h) n z0 (by omega)) (vq_lasf _ _ _ _ _ _ _ _)
  rw [← hmn,zv] at hsm
  have h7' := h7.nx hC4
  have h9' := h9.nx hC4
  have d0 := h7'.c0
  have d2 := h9'.c2
  have hAC4 : Nx A.next A C4 := hA.trans (hC4.le nC)
  have lR4 := (hk4 _ hRC).trans lR
  (repeat (first | refine Rn.seq hc ?_ | refine Rn.skip hc ?_ | refine Rn.block hc ?_ | refine Rn.inBlock hc ?_ | refine Rn.scope hc ?_ | refine Rn.inScope hc ?_))
  refine Rn.region hc fun K hK => ?_
  refine Wo.run hc 9 rfl rfl rfl ?_
  simp (maxSteps := 2000000) only [List.drop_zero,List.take_succ_cons,List.take_zero,zAY,zAU,zAT,sp_n,zAK,Nat.reduceLT,ne_eq,Nat.reduceEqDiff,not_false_eq_true,gd,zAX,rops,fx,ld,fad,lng,zAR,cls,Nat.zero_add,Nat.add_zero,Option.some.injEq,exists_eq_left',Nat.reduceAdd,ae_mkbound,tk3,tk22,tk86,zBJ,zBG,un22,hn,FK.val,s7,s9,s13,s17,d0,d2,g0,g1,g2,ae_mkbound]
  refine Wo.call hc (by rfl) (by rfl) ⟨by rfl,by rfl⟩ (xs := [.int .i64 x.m,.int .i64 (stem : Int),.int .i64 (y.ro.length : Int),.int .i64 (R : Int),.func (.func 77) #[.agg #[.int .i64 x.m,.slice (some ⟨bF,0,none⟩) stem (stem + y.ro.length),.slice (some ⟨bF,stem,none⟩) y.ro.length y.ro.length]] #[]]) (by rfl) (by rfl) (by simp only [zAY,zAU,zAT,sp_n,Nat.reduceLT,ne_eq,Nat.reduceEqDiff,zNf,List.map_cons,List.map_nil,List.nil_append,List.append_nil,hn]) (Con.mono (hsm) ?_)
  intro w D1 hT0
  obtain ⟨mm,n1,n2,ee,p1,c1,p2,c2,rfl,D,q1,g0,g1,g2,hoff,hT⟩ := Tld.fin (b := bR) hAC4 hR (by omega) lR4 hT0
  refine Wo.run hc 4 rfl rfl rfl ?_
  simp (maxSteps := 2000000) only [List.drop_zero,List.drop_succ_cons,List.take_succ_cons,List.take_zero,zAY,zAU,zAT,sp_n,zAK,Nat.reduceLT,ne_eq,Nat.reduceEqDiff,not_false_eq_true,gd,zAX,rops,fx,str,ext,zAR,List.getElem?_toArray,List.getElem?_cons_zero,List.getElem?_cons_succ,Nat.zero_add,Option.some.injEq,exists_eq_left',Nat.reduceAdd,tk24,hn,s4,ext,q1,List.size_toArray,List.length_cons,List.length_nil,Nat.beq_refl]
  refine Wo.done hc rfl (hK _ _ ?_)
  clear hK
  (repeat (first | refine Rn.seq hc ?_ | refine Rn.skip hc ?_ | refine Rn.block hc ?_ | refine Rn.inBlock hc ?_ | refine Rn.scope hc ?_ | refine Rn.inScope hc ?_))
  refine Rn.ret (zCT rfl (v := .agg #[.int .i64 mm,.slice p1 n1 c1,.slice p2 n2 c2]) ?_ ?_)
  · simp only [zAT,ne_eq,Nat.reduceEqDiff,zNf,ld,zAR,cls,Nat.zero_add,Nat.reduceAdd,tk24,s4,g0,g1,g2]
  · simp only [zAU,sp_n,Nat.reduceLT,hn]
    exact hT
end Go.Proofs.Ytdaljohmfnfgiaa
namespace Go.Proofs.Ytdaljohmfnfgiaa
open Go Go.RowKit Go.Proofs.Ytdaljohmfnfgiaa.Canon
set_option maxRecDepth 20000
theorem cv_first {A B : AHeap} (hA : Nx A.next A B) {bR b7 b9 b12 p14 bE R L : Nat} {x y : Las} (lR : Canon.look B.objs bR = some ⟨.cells #[.int .i64 0,.slice none 0 0,.slice none 0 0] 24,false,0⟩) (hR : A.next ≤ bR) (hRB : bR < B.next) (h7 : Hs B b7 x) (h9 : Hs B b9 y) (h12 : Hs B b12 y)
    (h14 : cl B p14 0 = some (.slice (some ⟨bE,0,none⟩) L L)) (l14 : p14 < B.next) (lE : bE < B.next) (hE : ∀ i,i < L → cl B bE i = some (.int .i64 (dfE x.m x.s R i))) (hm : 2 ≤ x.m ∧ x.m ≤ 65521) (xl : ∀ n,0 ≤ x.s n ∧ x.s n < x.m) (yl : ∀ n,0 ≤ y.s n ∧ y.s n < x.m) (hL : L ≤ 180) (hy0 : y.st.length ≤ 60) (hy : 1 ≤ y.ro.length ∧ y.ro.length ≤ 120) (hRR : 1 ≤ R ∧ R ≤ 120)
    {s : Slots} (hn : s.n = 129) (s4 : sget s 4 = .pointer (some ⟨bR,0,none⟩)) (s7 : sget s 7 = .pointer (some ⟨b7,0,none⟩)) (s9 : sget s 9 = .pointer (some ⟨b9,0,none⟩)) (s13 : sget s 13 = .int .i64 (R : Int)) (s16 : sget s 16 = .func (.func 93) #[] #[.pointer (some ⟨p14,0,none⟩),.pointer (some ⟨b12,0,none⟩),.pointer (some ⟨b7,0,none⟩)]) (s17 : sget s 17 = .int .i64 ((L + y.st.length : Nat) : Int)) :
    Rn Try.prog 49 none [.code (restN 10 (Try.f49.body.getD .skip))] s [] B (endQ Try.prog Try.f49 (Tld A 0 x.m (scn x.m (cvP x.m x.s y.s R L) R))) := by
  have nB := hA.next
  obtain ⟨P,hPd⟩ : ∃ P : Nat → Int,P = cvP x.m x.s y.s R L := ⟨_,rfl⟩
  have hPp : Per P (L + y.st.length) y.ro.length := by rw [hPd]; exact cvP_per (atL_per hy.1)
  have hPl : ∀ n,0 ≤ P n ∧ P n < x.m := fun n => by rw [hPd]; exact cvP_lim (by omega) _ _ n
  have hPv : ∀ n,cvM x.m (dfE x.m x.s R) y.s n (min (n + 1) L) % x.m = P n := fun n => by rw [hPd]; rfl
  rw [← hPd]
  clear hPd
  obtain ⟨stem,hstem⟩ : ∃ k,k = L + y.st.length := ⟨_,rfl⟩
  rw [← hstem] at hPp s17
  obtain ⟨N,hN⟩ : ∃ N,N = stem + y.ro.length := ⟨_,rfl⟩
  have hx2 : Nx B.next B (B.push (.cells (Array.replicate N (.int .i64 0)) 3)) := (Nx.refl hA.wf _).push (Nat.le_refl _) _
  have l2 := zAI B (.cells (Array.replicate N (.int .i64 0)) 3)
  have hn2 : (B.push (.cells (Array.replicate N (.int .i64 0)) 3)).next = B.next + 1 := rfl
  generalize e2 : B.push (.cells (Array.replicate N (.int .i64 0)) 3) = A2 at hx2 l2 hn2
  have hw0 : IntKind.i64.wrap ((stem : Int) + (y.ro.length : Int)) = (N : Int) := by rw [IntWalk.i64_in _ (by omega)]; omega
  have d2 := h9.c2
  refine Rn.seq hc ?_
  refine Rn.reg hc rfl ?_
  simp only [zAY,zAU,zAT,sp_n,Nat.reduceLT,ne_eq,Nat.reduceEqDiff,zNf,gd,zAX,rops,fx,ld,fad,lng,zAH,zAR,Nat.zero_add,zOi,zEl,tk22,zBG,un22,hn,s9,s17,d2,hw0,ae_mk2,mk2_nat (show N ≤ 1000000 by omega),e2]
  (repeat (first | refine Rn.seq hc ?_ | refine Rn.skip hc ?_ | refine Rn.block hc ?_ | refine Rn.inBlock hc ?_ | refine Rn.scope hc ?_ | refine Rn.inScope hc ?_))
  refine Rn.reg hc rfl ?_
  simp only [zAY,zAS,zAU,sp_n,Nat.reduceLT,gd,zAX,rops,fx,lng,zOi,zEl,un22,hn]
  (repeat (first | refine Rn.seq hc ?_ | refine Rn.skip hc ?_ | refine Rn.block hc ?_ | refine Rn.inBlock hc ?_ | refine Rn.scope hc ?_ | refine Rn.inScope hc ?_))
  obtain ⟨bS,hbS⟩ : ∃ b,b = B.next := ⟨_,rfl⟩
  rw [← hbS] at l2 ⊢
  refine Rn.zDY hc (I := fun k s C => ∃ i,∃ c : Array Value,i ≤ N ∧ k = N - i ∧ Nx B.next B C ∧ c.size = N ∧ Canon.look C.objs bS = some ⟨.cells c 3,false,0⟩ ∧ (∀ j,j < i → c[j]? = some (.int .i64 (P j))) ∧ s.n = 129 ∧ sget s 4 = .pointer (some ⟨bR,0,none⟩) ∧ sget s 7 = .pointer (some ⟨b7,0,none⟩) ∧ sget s 9 = .pointer (some ⟨b9,0,none⟩) ∧ sget s 13 = .int .i64 (R : Int) ∧ sget s 16 = .func (.func 93) #[] #[.pointer (some ⟨p14,0,none⟩),.pointer (some ⟨b12,0,none⟩),.pointer (some ⟨b7,0,none⟩)] ∧ sget s 17 = .int .i64 (stem : Int) ∧ sget s 18 = .slice (some ⟨bS,0,none⟩) N N ∧ sget s 96 = .int .i64 (N : Int) ∧ sget s 97 = .int .i64 (i : Int))
    (n := N) ⟨0,_,by omega,rfl,hx2,by simp,l2,fun j hj => absurd hj (by omega),by simp only [sp_n,hn],by simp only [zAT,ne_eq,Nat.reduceEqDiff,zNf,s4],by simp only [zAT,ne_eq,Nat.reduceEqDiff,zNf,s7],by simp only [zAT,ne_eq,Nat.reduceEqDiff,zNf,s9],by simp only [zAT,ne_eq,Nat.reduceEqDiff,zNf,s13],by simp only [zAT,ne_eq,Nat.reduceEqDiff,zNf,s16],by simp only [zAT,ne_eq,Nat.reduceEqDiff,zNf,s17],by simp only [zAU,zAT,sp_n,Nat.reduceLT,ne_eq,Nat.reduceEqDiff,zNf,hn],by simp only [zAU,zAT,sp_n,Nat.reduceLT,ne_eq,Nat.reduceEqDiff,zNf,hn],by simp only [zAU,sp_n,Nat.reduceLT,hn]; rfl⟩ ?_
  clear hn s4 s7 s9 s13 s16 s17 s
  rintro k s C ⟨i,c,hi,rfl,hC,hcs,lC,hcv,hn,s4,s7,s9,s13,s16,s17,s18,s96,s97⟩ ih
  have nC := hC.next
  have lSC : bS < C.next := hC.wf _ _ lC
  (repeat (first | refine Rn.seq hc ?_ | refine Rn.skip hc ?_ | refine Rn.block hc ?_ | refine Rn.inBlock hc ?_ | refine Rn.scope hc ?_ | refine Rn.inScope hc ?_))
  by_cases hlt : i < N
  · have hd : decide ((i : Int) < (N : Int)) = true := decide_eq_true (by omega)
    have h7C := h7.nx hC
    have hpr := prod_run hC.wf (n := i) (m := x.m) (E := dfE x.m x.s R) (y := y) ((hC.cl l14 0).trans h14) (fun j hj => (hC.cl lE j).trans (hE j hj)) (h12.nx hC) h7C.c0 (by omega) h7C.lt (by omega) hm (fun j => dfE_lim (by omega) xl R j) yl (by omega) (by omega) (by omega)
    rw [hPv] at hpr
    refine Rn.reg hc rfl ?_
    simp only [zAY,gd,zAX,rops,fx,zAN,zOi,zEl,s96,s97,hd]
    (repeat (first | refine Rn.seq hc ?_ | refine Rn.skip hc ?_ | refine Rn.block hc ?_ | refine Rn.inBlock hc ?_ | refine Rn.scope hc ?_ | refine Rn.inScope hc ?_))
    refine Rn.zAM hc rfl ?_
    simp only [zAY,zAU,Nat.reduceLT,Value.bool.injEq,zEl,hn]
    (repeat (first | refine Rn.seq hc ?_ | refine Rn.skip hc ?_ | refine Rn.block hc ?_ | refine Rn.inBlock hc ?_ | refine Rn.scope hc ?_ | refine Rn.inScope hc ?_))
    refine Rn.reg hc rfl ?_
    simp only [zAY,zAU,zAT,sp_n,Nat.reduceLT,ne_eq,Nat.reduceEqDiff,zNf,gd,zAX,rops,fx,zOi,zEl,hn,s97]
    (repeat (first | refine Rn.seq hc ?_ | refine Rn.skip hc ?_ | refine Rn.block hc ?_ | refine Rn.inBlock hc ?_ | refine Rn.scope hc ?_ | refine Rn.inScope hc ?_))
    refine Rn.region hc fun K hK => ?_
    refine Wo.run hc 4 rfl rfl rfl ?_
    simp (maxSteps := 2000000) only [List.drop_zero,List.take_succ_cons,List.take_zero,zAY,zAU,zAT,sp_n,Nat.reduceLT,ne_eq,Nat.reduceEqDiff,not_false_eq_true,gd,zAX,rops,fx,Nat.zero_add,Option.some.injEq,exists_eq_left',hn,s16,s18]
    refine Wo.call hc (by rfl) (by rfl) ⟨by rfl,by rfl⟩ (xs := [.int .i64 (i : Int),.pointer (some ⟨p14,0,none⟩),.pointer (some ⟨b12,0,none⟩),.pointer (some ⟨b7,0,none⟩)]) (by rfl) (by first | rfl | (simp only [zAY,zAU,zAT,sp_n,Nat.reduceLT,ne_eq,Nat.reduceEqDiff,zNf,hn]; done) | (simp only [zAY,zAU,zAT,sp_n,Nat.reduceLT,ne_eq,Nat.reduceEqDiff,zNf,hn]; rfl)) (by simp only [zAY,zAU,sp_n,Nat.reduceLT,List.map_cons,List.map_nil,List.nil_append,List.cons_append,hn]) (Con.mono (hpr) ?_)
    rintro w C1 ⟨rfl,hx3⟩
    have lC1 : Canon.look C1.objs bS = _ := (hx3.keep _ lSC).trans lC
    obtain ⟨C2,u1,u2⟩ := st1_upd (o := i) (v := .int .i64 (P i)) lC1 rfl (by omega) rfl
    have hoi : 0 + i * 1 = i := by omega
    refine Wo.run hc 2 rfl rfl rfl ?_
    simp (maxSteps := 2000000) only [List.drop_zero,List.drop_succ_cons,List.take_succ_cons,List.take_zero,zAY,zAU,zAT,sp_n,zAK,Nat.reduceLT,ne_eq,Nat.reduceEqDiff,not_false_eq_true,gd,zAX,rops,fx,str,idx,zAR,Nat.zero_add,Option.some.injEq,exists_eq_left',Nat.reduceAdd,Nat.mul_one,tk3,eo22,hn,zAQ hlt,u1]
    refine Wo.done hc rfl (hK _ _ ?_)
    clear hK
    (repeat (first | refine Rn.seq hc ?_ | refine Rn.skip hc ?_ | refine Rn.block hc ?_ | refine Rn.inBlock hc ?_ | refine Rn.scope hc ?_ | refine Rn.inScope hc ?_))
    obtain ⟨c',t,f,g',e,r1,r2,_⟩ := u2.at'
    rw [lC1] at r1
    cases r1
    refine Rn.reg hc rfl ?_
    simp only [zAY,zAS,zAU,zAT,sp_n,Nat.reduceLT,ne_eq,Nat.reduceEqDiff,zNf,gd,zAX,rops,fx,zAH,zOi,zEl,hn,s97,zBZ (show i < 9223372036854775807 by omega)]
    (repeat (first | refine Rn.seq hc ?_ | refine Rn.skip hc ?_ | refine Rn.block hc ?_ | refine Rn.inBlock hc ?_ | refine Rn.scope hc ?_ | refine Rn.inScope hc ?_))
    refine ih _ _ _ (by omega) ⟨i + 1,_,by omega,rfl,(hC.trans (hx3.le nC)).trans (u2.nx hx3.wf (Nat.le_of_eq hbS.symm)),by rw [Array.size_setIfInBounds]; exact hcs,r2,fun j hj => ?_,by simp only [sp_n,hn],by simp only [zAT,ne_eq,Nat.reduceEqDiff,zNf,s4],by simp only [zAT,ne_eq,Nat.reduceEqDiff,zNf,s7],by simp only [zAT,ne_eq,Nat.reduceEqDiff,zNf,s9],by simp only [zAT,ne_eq,Nat.reduceEqDiff,zNf,s13],by simp only [zAT,ne_eq,Nat.reduceEqDiff,zNf,s16],by simp only [zAT,ne_eq,Nat.reduceEqDiff,zNf,s17],by simp only [zAT,ne_eq,Nat.reduceEqDiff,zNf,s18],by simp only [zAT,ne_eq,Nat.reduceEqDiff,zNf,s96],by simp only [zAU,sp_n,Nat.reduceLT,hn]⟩
    by_cases hji : j = i
    · subst hji
      rw [Array.getElem?_setIfInBounds,if_pos rfl,if_pos (by omega)]
    · rw [Array.getElem?_setIfInBounds,if_neg (fun h => hji h.symm)]
      exact hcv j (by omega)
  · have hd : decide ((i : Int) < (N : Int)) = false := decide_eq_false (by omega)
    have hil : i = N := by omega
    subst hil
    clear ih
    refine Rn.reg hc rfl ?_
    simp only [zAY,gd,zAX,rops,fx,zAN,zOi,zEl,s96,s97,hd]
    (repeat (first | refine Rn.seq hc ?_ | refine Rn.skip hc ?_ | refine Rn.block hc ?_ | refine Rn.inBlock hc ?_ | refine Rn.scope hc ?_ | refine Rn.inScope hc ?_))
    refine Rn.zAM hc rfl ?_
    simp only [zAY,zAU,Nat.reduceLT,Value.bool.injEq,zEl,hn]
    (repeat (first | refine Rn.seq hc ?_ | refine Rn.skip hc ?_ | refine Rn.block hc ?_ | refine Rn.inBlock hc ?_ | refine Rn.scope hc ?_ | refine Rn.inScope hc ?_))
    refine Rn.exit hc rfl ?_
    subst hN
    exact cv_end (hA.trans (hC.le nB)) ((hC.keep _ hRB).trans lR) hR (by omega) (h7.nx hC) (h9.nx hC) lC hPp hPl hcv hm (by omega) hy hRR (by simp only [sp_n,hn]) (by simp only [zAT,ne_eq,Nat.reduceEqDiff,zNf,s4]) (by simp only [zAT,ne_eq,Nat.reduceEqDiff,zNf,s7]) (by simp only [zAT,ne_eq,Nat.reduceEqDiff,zNf,s9]) (by simp only [zAT,ne_eq,Nat.reduceEqDiff,zNf,s13]) (by simp only [zAT,ne_eq,Nat.reduceEqDiff,zNf,s17]) (by simp only [zAT,ne_eq,Nat.reduceEqDiff,zNf,s18])
end Go.Proofs.Ytdaljohmfnfgiaa
namespace Go.Proofs.Ytdaljohmfnfgiaa
open Go Go.RowKit Go.Proofs.Ytdaljohmfnfgiaa.Canon
set_option maxRecDepth 20000
def cwS : Canon.Spec := fun g xs A v A1 => match g with
  | 89 => (∀ n m : Int,xs = [.int .i64 n,.int .i64 m] → v = .int .i64 (nrm n m)) ∧ Nx A.next A A1
  | _ => atS 77 xs A v A1
theorem norm_cw {A : AHeap} (hw : WF A) {n m : Int} (hm : 0 < m ∧ m ≤ 65521) : Con Try.prog 89 [.int .i64 n,.int .i64 m] A (cwS 89 [.int .i64 n,.int .i64 m] A) :=
  Con.mono (norm_run hw hm) fun v A1 h => ⟨fun n' m' e => by
    simp only [List.cons.injEq,Value.int.injEq,true_and,and_true] at e
    obtain ⟨rfl,rfl⟩ := e
    exact h.1,h.2⟩
theorem at_cw {A : AHeap} (hw : WF A) {x : Las} (hox : x.ok A) (n : Nat) (hro : 0 < x.ro.length) (hn : n < 9223372036854775808) :
    Con Try.prog 77 [x.v,.int .i64 (n : Int)] A (cwS 77 [x.v,.int .i64 (n : Int)] A) := by
  unfold Las.v
  refine Con.mono (at_stream hw hox.1 hox.2.1 n hox.2.2.1 hro hox.2.2.2 hn) fun v A1 h => ⟨fun m' sa' st' sc' ra' ro' rc' n' e h1 h2 => ?_,h.2⟩
  simp only [List.cons.injEq,Value.agg.injEq,Array.mk.injEq,Value.int.injEq,Value.slice.injEq,true_and,and_true] at e
  obtain ⟨⟨-,⟨rfl,e1,-⟩,rfl,e2,-⟩,e3⟩ := e
  have hn' : n = n' := by omega
  subst hn'
  rw [h.1,ints_uniq hox.1 h1 e1,ints_uniq hox.2.1 h2 e2]
theorem cv_ends {A B : AHeap} (hA : Nx A.next A B) {bR b7 b9 b11 b12 R : Nat} {x y : Las} (lR : Canon.look B.objs bR = some ⟨.cells #[.int .i64 0,.slice none 0 0,.slice none 0 0] 24,false,0⟩) (hR : A.next ≤ bR) (hRB : bR < B.next) (h7 : Hs B b7 x) (h9 : Hs B b9 y) (h11 : Hs B b11 x) (h12 : Hs B b12 y)
    (hm : 2 ≤ x.m ∧ x.m ≤ 65521) (xl : ∀ n,0 ≤ x.s n ∧ x.s n < x.m) (yl : ∀ n,0 ≤ y.s n ∧ y.s n < x.m) (hx0 : x.st.length ≤ 60) (hxr : 1 ≤ x.ro.length ∧ x.ro.length ≤ 120) (hy0 : y.st.length ≤ 60) (hy : 1 ≤ y.ro.length ∧ y.ro.length ≤ 120) (hRR : R = x.ro.length)
    {s : Slots} (hn : s.n = 129) (s4 : sget s 4 = .pointer (some ⟨bR,0,none⟩)) (s7 : sget s 7 = .pointer (some ⟨b7,0,none⟩)) (s9 : sget s 9 = .pointer (some ⟨b9,0,none⟩)) (s11 : sget s 11 = .pointer (some ⟨b11,0,none⟩)) (s12 : sget s 12 = .pointer (some ⟨b12,0,none⟩)) (s13 : sget s 13 = .int .i64 (R : Int)) :
    Rn Try.prog 49 none [.code (restN 6 (Try.f49.body.getD .skip))] s [] B (endQ Try.prog Try.f49 (Tld A 0 x.m (conv x.m x.s y.s))) := by
  have nB := hA.next
  have hscn : scn x.m (cvP x.m x.s y.s R (x.st.length + R)) R = conv x.m x.s y.s := by
    funext n
    exact cvP_scn (by rw [hRR]; exact atL_per hxr.1) n
  rw [← hscn]
  clear hscn
  obtain ⟨L,hL⟩ : ∃ L,L = x.st.length + R := ⟨_,rfl⟩
  rw [← hL]
  have hx7 : Nx B.next B (B.push (.cells (Array.replicate L (.int .i64 0)) 3)) := (Nx.refl hA.wf _).push (Nat.le_refl _) _
  have l7 := zAI B (.cells (Array.replicate L (.int .i64 0)) 3)
  have hn7 : (B.push (.cells (Array.replicate L (.int .i64 0)) 3)).next = B.next + 1 := rfl
  generalize e7 : B.push (.cells (Array.replicate L (.int .i64 0)) 3) = A7 at hx7 l7 hn7
  obtain ⟨A8,e8,hx8,hn8,-,l8⟩ := box1 hx7.wf (.slice none 0 0) 22
  obtain ⟨C,q9,u9⟩ := st1_upd (o := 0) (v := .slice (some ⟨B.next,0,none⟩) L L) l8 rfl (by simp) rfl
  have hn9 := u9.next
  have hx9 : Nx A7.next A7 C := hx8.trans (u9.nx hx8.wf (Nat.le_refl _))
  have h14 : cl C A7.next 0 = some (.slice (some ⟨B.next,0,none⟩) L L) := by rw [u9.cl]; rfl
  have lE : Canon.look C.objs B.next = _ := (hx9.keep _ (by omega)).trans l7
  have hBC : Nx B.next B C := hx7.trans (hx9.le (by omega))
  have d1 := h7.c1
  have hw0 : IntKind.i64.wrap ((x.st.length : Int) + (R : Int)) = (L : Int) := by rw [IntWalk.i64_in _ (by omega)]; omega
  refine Rn.seq hc ?_
  refine Rn.reg hc rfl ?_
  simp only [zAY,zAU,zAT,sp_n,zAK,Nat.reduceLT,ne_eq,Nat.reduceEqDiff,zNf,gd,zAX,rops,fx,ld,str,fad,lng,zAH,zAR,Nat.zero_add,zOi,zEl,Value.cells,tk22,zBO,un22,hn,s7,s13,d1,hw0,ae_mk2,mk2_nat (show L ≤ 1000000 by omega),e7,ze22,e8,q9]
  (repeat (first | refine Rn.seq hc ?_ | refine Rn.skip hc ?_ | refine Rn.block hc ?_ | refine Rn.inBlock hc ?_ | refine Rn.scope hc ?_ | refine Rn.inScope hc ?_))
  refine Rn.reg hc rfl ?_
  simp only [zAY,zAS,zAU,sp_n,Nat.reduceLT,gd,zAX,rops,fx,ld,lng,zAR,zOi,zEl,tk22,un22,hn,h14]
  (repeat (first | refine Rn.seq hc ?_ | refine Rn.skip hc ?_ | refine Rn.block hc ?_ | refine Rn.inBlock hc ?_ | refine Rn.scope hc ?_ | refine Rn.inScope hc ?_))
  obtain ⟨bE,hbE⟩ : ∃ b,b = B.next := ⟨_,rfl⟩
  obtain ⟨p14,hp14⟩ : ∃ b,b = A7.next := ⟨_,rfl⟩
  rw [← hbE,← hp14] at h14
  rw [← hbE] at lE
  rw [← hp14]
  have hEp : bE ≠ p14 := by omega
  have lp : p14 < C.next := by omega
  have lE0 : bE < C.next := by omega
  clear e7 e8 q9 u9 l7 l8 hx7 hx8 hx9 hn7 hn8 hn9 hp14
  refine Rn.zDY hc (I := fun k s D => ∃ i,∃ c : Array Value,i ≤ L ∧ k = L - i ∧ Nx B.next B D ∧ C.next ≤ D.next ∧ cl D p14 0 = some (.slice (some ⟨bE,0,none⟩) L L) ∧ c.size = L ∧ Canon.look D.objs bE = some ⟨.cells c 3,false,0⟩ ∧ (∀ j,j < i → c[j]? = some (.int .i64 (dfE x.m x.s R j))) ∧ s.n = 129 ∧ sget s 4 = .pointer (some ⟨bR,0,none⟩) ∧ sget s 7 = .pointer (some ⟨b7,0,none⟩) ∧ sget s 9 = .pointer (some ⟨b9,0,none⟩) ∧ sget s 11 = .pointer (some ⟨b11,0,none⟩) ∧ sget s 12 = .pointer (some ⟨b12,0,none⟩) ∧ sget s 13 = .int .i64 (R : Int) ∧ sget s 14 = .pointer (some ⟨p14,0,none⟩) ∧ sget s 53 = .int .i64 (L : Int) ∧ sget s 54 = .int .i64 (i : Int))
    (n := L) ⟨0,_,by omega,rfl,hBC,Nat.le_refl _,h14,by simp,lE,fun j hj => absurd hj (by omega),by simp only [sp_n,hn],by simp only [zAT,ne_eq,Nat.reduceEqDiff,zNf,s4],by simp only [zAT,ne_eq,Nat.reduceEqDiff,zNf,s7],by simp only [zAT,ne_eq,Nat.reduceEqDiff,zNf,s9],by simp only [zAT,ne_eq,Nat.reduceEqDiff,zNf,s11],by simp only [zAT,ne_eq,Nat.reduceEqDiff,zNf,s12],by simp only [zAT,ne_eq,Nat.reduceEqDiff,zNf,s13],by simp only [zAU,zAT,sp_n,Nat.reduceLT,ne_eq,Nat.reduceEqDiff,zNf,hn],by simp only [zAU,zAT,sp_n,Nat.reduceLT,ne_eq,Nat.reduceEqDiff,zNf,hn],by simp only [zAU,sp_n,Nat.reduceLT,hn]; rfl⟩ ?_
  clear hn s4 s7 s9 s11 s12 s13 s h14 lE hBC
  rintro k s D ⟨i,c,hi,rfl,hD,nCD,h14,hcs,lE,hcv,hn,s4,s7,s9,s11,s12,s13,s14,s53,s54⟩ ih
  have nD := hD.next
  (repeat (first | refine Rn.seq hc ?_ | refine Rn.skip hc ?_ | refine Rn.block hc ?_ | refine Rn.inBlock hc ?_ | refine Rn.scope hc ?_ | refine Rn.inScope hc ?_))
  by_cases hlt : i < L
  · have hd : decide ((i : Int) < (L : Int)) = true := decide_eq_true (by omega)
    have hoi : 0 + i * 1 = i := by omega
    have h11D := h11.nx hD
    have h7D := h7.nx hD
    obtain ⟨F,hFb,hF⟩ : ∃ F : AHeap → Prop,(∀ M,F M → ∀ b,b < D.next → ∀ o,cl M b o = cl D b o) ∧ (∀ M,Nx D.next D M → F M) := ⟨fun M => Nx D.next D M,fun M h b hb o => h.cl hb o,fun _ h => h⟩
    have X0 := fun M hM => (hFb M hM _ h11D.lt 0).trans h11D.c0
    have X1 := fun M hM => (hFb M hM _ h11D.lt 1).trans h11D.c1
    have X2 := fun M hM => (hFb M hM _ h11D.lt 2).trans h11D.c2
    have F14 := fun M hM => (hFb M hM p14 (by omega) 0).trans h14
    have hbk : Nx D.next D (bump D 7) := Nx.bump (Nx.refl hD.wf _) 7
    have FB := hF _ hbk
    have okX := h11D.ok.nx hbk
    refine Rn.reg hc rfl ?_
    simp only [zAY,gd,zAX,rops,fx,zAN,zOi,zEl,s53,s54,hd]
    (repeat (first | refine Rn.seq hc ?_ | refine Rn.skip hc ?_ | refine Rn.block hc ?_ | refine Rn.inBlock hc ?_ | refine Rn.scope hc ?_ | refine Rn.inScope hc ?_))
    refine Rn.zAM hc rfl ?_
    simp only [zAY,zAU,Nat.reduceLT,Value.bool.injEq,zEl,hn]
    (repeat (first | refine Rn.seq hc ?_ | refine Rn.skip hc ?_ | refine Rn.block hc ?_ | refine Rn.inBlock hc ?_ | refine Rn.scope hc ?_ | refine Rn.inScope hc ?_))
    refine Rn.reg hc rfl ?_
    simp only [zAY,zAU,zAT,sp_n,Nat.reduceLT,ne_eq,Nat.reduceEqDiff,zNf,gd,zAX,rops,fx,zOi,zEl,hn,s54]
    (repeat (first | refine Rn.seq hc ?_ | refine Rn.skip hc ?_ | refine Rn.block hc ?_ | refine Rn.inBlock hc ?_ | refine Rn.scope hc ?_ | refine Rn.inScope hc ?_))
    refine Rn.drawnL hc hx cwS F (E := [4]) (n := 6) (k := 7) (by kernel_rfl) (by kernel_rfl) (by rfl) (by kernel_rfl) ?_
    refine DrL.read (by first | rfl | kernel_rfl) (by rfl) (by assumption) (fun M hM => by simp only [zAY,zAT,ne_eq,Nat.reduceEqDiff,zNf,fx,ld,zAR,tk22,s14,F14 M hM] <;> rfl) (by rfl) (by first | exact VQ.int _ _ | exact VQ.bool _ | exact VQ.ptr _ _ | exact VQ.slice _ _ _ | exact VQ.func (by simp [zAW,zAV,zAZ]) (by simp [zAW,zAV,zAZ]) | exact VQ.agg (by simp [zAW,zAV,zAZ]) | exact VQ.tuple (by simp [zAW,zAV,zAZ])) ?_
    refine DrL.read (by first | rfl | kernel_rfl) (by rfl) (by assumption) (fun M hM => by simp only [zAY,zAU,zAT,sp_n,Nat.reduceLT,ne_eq,Nat.reduceEqDiff,zNf,fx,hn] <;> rfl) (by rfl) (by first | exact VQ.int _ _ | exact VQ.bool _ | exact VQ.ptr _ _ | exact VQ.slice _ _ _ | exact VQ.func (by simp [zAW,zAV,zAZ]) (by simp [zAW,zAV,zAZ]) | exact VQ.agg (by simp [zAW,zAV,zAZ]) | exact VQ.tuple (by simp [zAW,zAV,zAZ])) ?_
    refine DrL.read (by first | rfl | kernel_rfl) (by rfl) (by assumption) (fun M hM => by simp only [zAY,zAT,ne_eq,Nat.reduceEqDiff,zNf,fx,ld,zAR,cls,Nat.zero_add,Nat.reduceAdd,tk86,s11,X0 M hM,X1 M hM,X2 M hM] <;> rfl) (by rfl) (by first | exact VQ.int _ _ | exact VQ.bool _ | exact VQ.ptr _ _ | exact VQ.slice _ _ _ | exact VQ.func (by simp [zAW,zAV,zAZ]) (by simp [zAW,zAV,zAZ]) | exact VQ.agg (by simp [zAW,zAZ]) | exact VQ.tuple (by simp [zAW,zAV,zAZ])) ?_
    refine DrL.read (by first | rfl | kernel_rfl) (by rfl) (by assumption) (fun M hM => by simp only [zAY,zAU,zAT,sp_n,Nat.reduceLT,ne_eq,Nat.reduceEqDiff,zNf,fx,hn] <;> rfl) (by rfl) (by first | exact VQ.int _ _ | exact VQ.bool _ | exact VQ.ptr _ _ | exact VQ.slice _ _ _ | exact VQ.func (by simp [zAW,zAV,zAZ]) (by simp [zAW,zAV,zAZ]) | exact VQ.agg (by simp [zAW,zAV,zAZ]) | exact VQ.tuple (by simp [zAW,zAV,zAZ])) ?_
    refine DrL.call (by kernel_rfl) (by rfl) (by assumption) (by rfl) (zAA (by rfl) ⟨by rfl,by rfl⟩ (by rfl) (xs := [x.v,.int .i64 (i : Int)]) (by simp only [zAY,zAU,zAT,sp_n,Nat.reduceLT,ne_eq,Nat.reduceEqDiff,zNf,List.map_cons,List.map_nil,List.nil_append,List.append_nil,hn,Las.v]) (at_cw hbk.wf okX i hxr.1 (by omega))) ?_
    rintro v M1 ⟨hv,k1⟩
    obtain rfl := hv _ _ _ _ _ _ _ _ rfl okX.1 okX.2.1
    rw [show atL x.st x.ro i = x.s i from rfl]
    have hM1 : Nx D.next D M1 := hbk.trans (k1.le hbk.next)
    have F1 := hF _ hM1
    refine DrL.read (by first | rfl | kernel_rfl) (by rfl) (by assumption) (fun M hM => by simp only [zAY,zAU,zAT,sp_n,Nat.reduceLT,ne_eq,Nat.reduceEqDiff,zNf,fx,idx,Nat.zero_add,Nat.mul_one,eo22,hn,zAQ hlt] <;> rfl) (by rfl) (by first | exact VQ.int _ _ | exact VQ.bool _ | exact VQ.ptr _ _ | exact VQ.slice _ _ _ | exact VQ.func (by simp [zAW,zAV,zAZ]) (by simp [zAW,zAV,zAZ]) | exact VQ.agg (by simp [zAW,zAV,zAZ]) | exact VQ.tuple (by simp [zAW,zAV,zAZ])) ?_
    have lM1 : Canon.look M1.objs bE = _ := (hM1.keep _ (by omega)).trans lE
    obtain ⟨D2,u1,u2⟩ := st1_upd (o := i) (v := .int .i64 (x.s i)) lM1 rfl (by omega) rfl
    refine DrL.eff (by rfl) (by rfl) (pd1 := []) (pd2 := []) (by kernel_rfl) (by kernel_rfl) (ms0 := []) (A0 := M1) rfl (fun _ h => by cases h) F1 (by rfl) (v := undef) (A1 := D2) (zBQ rfl (fx_ok (by rfl) (by simp only [zAY,zAU,zAT,sp_n,Nat.reduceLT,ne_eq,Nat.reduceEqDiff,zNf,fx,str,zAR,tk3,hn,u1]))) ?_
    refine DrL.nil ⟨by rfl,D2,by rfl,?_⟩
    obtain ⟨c',t,f,g',e,r1,r2,_⟩ := u2.at'
    rw [lM1] at r1
    cases r1
    have hnM := hM1.next
    have hn2 := u2.next
    have hw2 := (u2.nx hM1.wf (Nat.zero_le _)).wf
    have hB2 : Nx B.next B D2 := (hD.trans (hM1.le nD)).trans (u2.nx hM1.wf (Nat.le_of_eq hbE.symm))
    have h14' : cl D2 p14 0 = some (.slice (some ⟨bE,0,none⟩) L L) := by rw [zBW (u2.off _ (fun h => hEp h.symm))]; exact (hM1.cl (by omega) 0).trans h14
    (repeat (first | refine Rn.seq hc ?_ | refine Rn.skip hc ?_ | refine Rn.block hc ?_ | refine Rn.inBlock hc ?_ | refine Rn.scope hc ?_ | refine Rn.inScope hc ?_))
    by_cases hiR : R ≤ i
    · have hg : decide ((R : Int) ≤ (i : Int)) = true := decide_eq_true (by omega)
      have hg' : decide ((i : Int) ≥ (R : Int)) = true := decide_eq_true (by omega)
      have h11E := h11.nx hB2
      have h7E := h7.nx hB2
      obtain ⟨F,hFb,hF⟩ : ∃ F : AHeap → Prop,(∀ M,F M → ∀ b,b < D2.next → ∀ o,cl M b o = cl D2 b o) ∧ (∀ M,Nx D2.next D2 M → F M) := ⟨fun M => Nx D2.next D2 M,fun M h b hb o => h.cl hb o,fun _ h => h⟩
      have X0 := fun M hM => (hFb M hM _ h11E.lt 0).trans h11E.c0
      have X1 := fun M hM => (hFb M hM _ h11E.lt 1).trans h11E.c1
      have X2 := fun M hM => (hFb M hM _ h11E.lt 2).trans h11E.c2
      have X7 := fun M hM => (hFb M hM _ h7E.lt 0).trans h7E.c0
      have F14 := fun M hM => (hFb M hM p14 (by omega) 0).trans h14'
      have hbk : Nx D2.next D2 (bump D2 16) := Nx.bump (Nx.refl hw2 _) 16
      have FB := hF _ hbk
      have okX := h11E.ok.nx hbk
      have hx1 := xl i
      have hx2 := xl (i - R)
      have hws : IntKind.i64.wrap ((i : Int) - (R : Int)) = ((i - R : Nat) : Int) := by rw [IntWalk.i64_in _ (by omega)]; omega
      have hwd : IntKind.i64.wrap (x.s i - x.s (i - R)) = x.s i - x.s (i - R) := IntWalk.i64_in _ ⟨by omega,by omega⟩
      have hdf : nrm (x.s i - x.s (i - R)) x.m = dfE x.m x.s R i := by
        rw [nrm_mod _ (by omega)]
        unfold dfE
        rw [if_neg (by omega)]
      refine Rn.reg hc rfl ?_
      simp only [zAY,zAU,zAT,sp_n,zAK,Nat.reduceLT,ne_eq,Nat.reduceEqDiff,zNf,gd,zAX,rops,fx,bin_geq,zOi,zEl,hn,s13,hg]
      (repeat (first | refine Rn.seq hc ?_ | refine Rn.skip hc ?_ | refine Rn.block hc ?_ | refine Rn.inBlock hc ?_ | refine Rn.scope hc ?_ | refine Rn.inScope hc ?_))
      refine Rn.zAM hc rfl ?_
      simp only [zAY,zAU,sp_n,Nat.reduceLT,Value.bool.injEq,zEl,hn]
      (repeat (first | refine Rn.seq hc ?_ | refine Rn.skip hc ?_ | refine Rn.block hc ?_ | refine Rn.inBlock hc ?_ | refine Rn.scope hc ?_ | refine Rn.inScope hc ?_))
      refine Rn.drawnL hc hx cwS F (E := [4,9,13]) (n := 15) (k := 16) (by kernel_rfl) (by kernel_rfl) (by rfl) (by kernel_rfl) ?_
      refine DrL.read (by first | rfl | kernel_rfl) (by rfl) (by assumption) (fun M hM => by simp only [zAY,zAT,ne_eq,Nat.reduceEqDiff,zNf,fx,ld,zAR,tk22,s14,F14 M hM] <;> rfl) (by rfl) (by first | exact VQ.int _ _ | exact VQ.bool _ | exact VQ.ptr _ _ | exact VQ.slice _ _ _ | exact VQ.func (by simp [zAW,zAV,zAZ]) (by simp [zAW,zAV,zAZ]) | exact VQ.agg (by simp [zAW,zAV,zAZ]) | exact VQ.tuple (by simp [zAW,zAV,zAZ])) ?_
      refine DrL.read (by first | rfl | kernel_rfl) (by rfl) (by assumption) (fun M hM => by simp only [zAY,zAU,zAT,sp_n,Nat.reduceLT,ne_eq,Nat.reduceEqDiff,zNf,fx,hn] <;> rfl) (by rfl) (by first | exact VQ.int _ _ | exact VQ.bool _ | exact VQ.ptr _ _ | exact VQ.slice _ _ _ | exact VQ.func (by simp [zAW,zAV,zAZ]) (by simp [zAW,zAV,zAZ]) | exact VQ.agg (by simp [zAW,zAV,zAZ]) | exact VQ.tuple (by simp [zAW,zAV,zAZ])) ?_
      refine DrL.read (by first | rfl | kernel_rfl) (by rfl) (by assumption) (fun M hM => by simp only [zAY,zAT,ne_eq,Nat.reduceEqDiff,zNf,fx,ld,zAR,cls,Nat.zero_add,Nat.reduceAdd,tk86,s11,X0 M hM,X1 M hM,X2 M hM] <;> rfl) (by rfl) (by first | exact VQ.int _ _ | exact VQ.bool _ | exact VQ.ptr _ _ | exact VQ.slice _ _ _ | exact VQ.func (by simp [zAW,zAV,zAZ]) (by simp [zAW,zAV,zAZ]) | exact VQ.agg (by simp [zAW,zAZ]) | exact VQ.tuple (by simp [zAW,zAV,zAZ])) ?_
      refine DrL.read (by first | rfl | kernel_rfl) (by rfl) (by assumption) (fun M hM => by simp only [zAY,zAU,zAT,sp_n,Nat.reduceLT,ne_eq,Nat.reduceEqDiff,zNf,fx,hn] <;> rfl) (by rfl) (by first | exact VQ.int _ _ | exact VQ.bool _ | exact VQ.ptr _ _ | exact VQ.slice _ _ _ | exact VQ.func (by simp [zAW,zAV,zAZ]) (by simp [zAW,zAV,zAZ]) | exact VQ.agg (by simp [zAW,zAV,zAZ]) | exact VQ.tuple (by simp [zAW,zAV,zAZ])) ?_
      refine DrL.call (by kernel_rfl) (by rfl) (by assumption) (by rfl) (zAA (by rfl) ⟨by rfl,by rfl⟩ (by rfl) (xs := [x.v,.int .i64 (i : Int)]) (by simp only [zAY,zAU,zAT,sp_n,Nat.reduceLT,ne_eq,Nat.reduceEqDiff,zNf,List.map_cons,List.map_nil,List.nil_append,List.append_nil,hn,Las.v]) (at_cw hbk.wf okX i hxr.1 (by omega))) ?_
      rintro v E1 ⟨hv,k1⟩
      obtain rfl := hv _ _ _ _ _ _ _ _ rfl okX.1 okX.2.1
      rw [show atL x.st x.ro i = x.s i from rfl]
      have hE1 : Nx D2.next D2 E1 := hbk.trans (k1.le hbk.next)
      have F1 := hF _ hE1
      have okX := h11E.ok.nx hE1
      refine DrL.read (by first | rfl | kernel_rfl) (by rfl) (by assumption) (fun M hM => by simp only [zAY,zAT,ne_eq,Nat.reduceEqDiff,zNf,fx,ld,zAR,cls,Nat.zero_add,Nat.reduceAdd,tk86,s11,X0 M hM,X1 M hM,X2 M hM] <;> rfl) (by rfl) (by first | exact VQ.int _ _ | exact VQ.bool _ | exact VQ.ptr _ _ | exact VQ.slice _ _ _ | exact VQ.func (by simp [zAW,zAV,zAZ]) (by simp [zAW,zAV,zAZ]) | exact VQ.agg (by simp [zAW,zAZ]) | exact VQ.tuple (by simp [zAW,zAV,zAZ])) ?_
      refine DrL.read (by first | rfl | kernel_rfl) (by rfl) (by assumption) (fun M hM => by simp only [zAY,zAU,zAT,sp_n,Nat.reduceLT,ne_eq,Nat.reduceEqDiff,zNf,fx,hn] <;> rfl) (by rfl) (by first | exact VQ.int _ _ | exact VQ.bool _ | exact VQ.ptr _ _ | exact VQ.slice _ _ _ | exact VQ.func (by simp [zAW,zAV,zAZ]) (by simp [zAW,zAV,zAZ]) | exact VQ.agg (by simp [zAW,zAV,zAZ]) | exact VQ.tuple (by simp [zAW,zAV,zAZ])) ?_
      refine DrL.read (by first | rfl | kernel_rfl) (by rfl) (by assumption) (fun M hM => by simp only [zAY,zAT,ne_eq,Nat.reduceEqDiff,zNf,fx,s13] <;> rfl) (by rfl) (by first | exact VQ.int _ _ | exact VQ.bool _ | exact VQ.ptr _ _ | exact VQ.slice _ _ _ | exact VQ.func (by simp [zAW,zAV,zAZ]) (by simp [zAW,zAV,zAZ]) | exact VQ.agg (by simp [zAW,zAV,zAZ]) | exact VQ.tuple (by simp [zAW,zAV,zAZ])) ?_
      refine DrL.read (by first | rfl | kernel_rfl) (by rfl) (by assumption) (fun M hM => by simp only [zAY,zAU,zAT,sp_n,Nat.reduceLT,ne_eq,Nat.reduceEqDiff,zNf,fx,zBR,hn,hws] <;> rfl) (by rfl) (by first | exact VQ.int _ _ | exact VQ.bool _ | exact VQ.ptr _ _ | exact VQ.slice _ _ _ | exact VQ.func (by simp [zAW,zAV,zAZ]) (by simp [zAW,zAV,zAZ]) | exact VQ.agg (by simp [zAW,zAV,zAZ]) | exact VQ.tuple (by simp [zAW,zAV,zAZ])) ?_
      refine DrL.call (by kernel_rfl) (by rfl) (by assumption) (by rfl) (zAA (by rfl) ⟨by rfl,by rfl⟩ (by rfl) (xs := [x.v,.int .i64 ((i - R : Nat) : Int)]) (by simp only [zAY,zAU,zAT,sp_n,Nat.reduceLT,ne_eq,Nat.reduceEqDiff,zNf,List.map_cons,List.map_nil,List.nil_append,List.append_nil,hn,Las.v]) (at_cw hE1.wf okX (i - R) hxr.1 (by omega))) ?_
      rintro v E2 ⟨hv,k2⟩
      obtain rfl := hv _ _ _ _ _ _ _ _ rfl okX.1 okX.2.1
      rw [show atL x.st x.ro (i - R) = x.s (i - R) from rfl]
      have hE2 : Nx D2.next D2 E2 := hE1.trans (k2.le hE1.next)
      have F2 := hF _ hE2
      refine DrL.read (by first | rfl | kernel_rfl) (by rfl) (by assumption) (fun M hM => by simp only [zAY,zAU,zAT,sp_n,Nat.reduceLT,ne_eq,Nat.reduceEqDiff,zNf,fx,zBR,hn,hwd] <;> rfl) (by rfl) (by first | exact VQ.int _ _ | exact VQ.bool _ | exact VQ.ptr _ _ | exact VQ.slice _ _ _ | exact VQ.func (by simp [zAW,zAV,zAZ]) (by simp [zAW,zAV,zAZ]) | exact VQ.agg (by simp [zAW,zAV,zAZ]) | exact VQ.tuple (by simp [zAW,zAV,zAZ])) ?_
      refine DrL.read (by first | rfl | kernel_rfl) (by rfl) (by assumption) (fun M hM => by simp only [zAY,zAT,ne_eq,Nat.reduceEqDiff,zNf,fx,fad,zAR,Nat.add_zero,zBJ,s7] <;> rfl) (by rfl) (by first | exact VQ.int _ _ | exact VQ.bool _ | exact VQ.ptr _ _ | exact VQ.slice _ _ _ | exact VQ.func (by simp [zAW,zAV,zAZ]) (by simp [zAW,zAV,zAZ]) | exact VQ.agg (by simp [zAW,zAV,zAZ]) | exact VQ.tuple (by simp [zAW,zAV,zAZ])) ?_
      refine DrL.read (by first | rfl | kernel_rfl) (by rfl) (by assumption) (fun M hM => by simp only [zAY,zAU,sp_n,Nat.reduceLT,fx,ld,zAR,tk3,hn,X7 M hM] <;> rfl) (by rfl) (by first | exact VQ.int _ _ | exact VQ.bool _ | exact VQ.ptr _ _ | exact VQ.slice _ _ _ | exact VQ.func (by simp [zAW,zAV,zAZ]) (by simp [zAW,zAV,zAZ]) | exact VQ.agg (by simp [zAW,zAV,zAZ]) | exact VQ.tuple (by simp [zAW,zAV,zAZ])) ?_
      refine DrL.call (by kernel_rfl) (by rfl) (by assumption) (by rfl) (zAA (by rfl) ⟨by rfl,by rfl⟩ (by rfl) (xs := [.int .i64 (x.s i - x.s (i - R)),.int .i64 x.m]) (by simp only [zAY,zAU,zAT,sp_n,Nat.reduceLT,ne_eq,Nat.reduceEqDiff,zNf,List.map_cons,List.map_nil,List.nil_append,List.append_nil,hn]) (norm_cw hE2.wf (by omega))) ?_
      rintro v E3 ⟨hv,k3⟩
      obtain rfl := hv _ _ rfl
      rw [hdf]
      have hE3 : Nx D2.next D2 E3 := hE2.trans (k3.le hE2.next)
      have F3 := hF _ hE3
      refine DrL.read (by first | rfl | kernel_rfl) (by rfl) (by assumption) (fun M hM => by simp only [zAY,zAU,zAT,sp_n,Nat.reduceLT,ne_eq,Nat.reduceEqDiff,zNf,fx,idx,Nat.zero_add,Nat.mul_one,eo22,hn,zAQ hlt] <;> rfl) (by rfl) (by first | exact VQ.int _ _ | exact VQ.bool _ | exact VQ.ptr _ _ | exact VQ.slice _ _ _ | exact VQ.func (by simp [zAW,zAV,zAZ]) (by simp [zAW,zAV,zAZ]) | exact VQ.agg (by simp [zAW,zAV,zAZ]) | exact VQ.tuple (by simp [zAW,zAV,zAZ])) ?_
      have lE3 : Canon.look E3.objs bE = _ := (hE3.keep _ (by omega)).trans r2
      obtain ⟨D3,v1,v2⟩ := st1_upd (o := i) (v := .int .i64 (dfE x.m x.s R i)) lE3 rfl (by rw [Array.size_setIfInBounds]; omega) rfl
      refine DrL.eff (by rfl) (by rfl) (pd1 := []) (pd2 := []) (by kernel_rfl) (by kernel_rfl) (ms0 := []) (A0 := E3) rfl (fun _ h => by cases h) F3 (by rfl) (v := undef) (A1 := D3) (zBQ rfl (fx_ok (by rfl) (by simp only [zAY,zAU,zAT,sp_n,Nat.reduceLT,ne_eq,Nat.reduceEqDiff,zNf,fx,str,zAR,tk3,hn,v1]))) ?_
      refine DrL.nil ⟨by rfl,D3,by rfl,?_⟩
      obtain ⟨c',t,f,g',e,t1,t2,_⟩ := v2.at'
      rw [lE3] at t1
      cases t1
      have hn3 := v2.next
      have hnE := hE3.next
      (repeat (first | refine Rn.seq hc ?_ | refine Rn.skip hc ?_ | refine Rn.block hc ?_ | refine Rn.inBlock hc ?_ | refine Rn.scope hc ?_ | refine Rn.inScope hc ?_))
      refine Rn.reg hc rfl ?_
      simp only [zAY,zAS,zAU,zAT,sp_n,zAK,Nat.reduceLT,ne_eq,Nat.reduceEqDiff,zNf,gd,zAX,rops,fx,zAH,zOi,zEl,hn,s54,zBZ (show i < 9223372036854775807 by omega)]
      (repeat (first | refine Rn.seq hc ?_ | refine Rn.skip hc ?_ | refine Rn.block hc ?_ | refine Rn.inBlock hc ?_ | refine Rn.scope hc ?_ | refine Rn.inScope hc ?_))
      refine ih _ _ _ (by omega) ⟨i + 1,_,by omega,rfl,(hB2.trans (hE3.le hB2.next)).trans (v2.nx hE3.wf (Nat.le_of_eq hbE.symm)),by omega,by rw [zBW (v2.off _ (fun h => hEp h.symm))]; exact (hE3.cl (by omega) 0).trans h14',by rw [Array.size_setIfInBounds,Array.size_setIfInBounds]; exact hcs,t2,fun j hj => ?_,by simp only [sp_n,hn],by simp only [zAT,ne_eq,Nat.reduceEqDiff,zNf,s4],by simp only [zAT,ne_eq,Nat.reduceEqDiff,zNf,s7],by simp only [zAT,ne_eq,Nat.reduceEqDiff,zNf,s9],by simp only [zAT,ne_eq,Nat.reduceEqDiff,zNf,s11],by simp only [zAT,ne_eq,Nat.reduceEqDiff,zNf,s12],by simp only [zAT,ne_eq,Nat.reduceEqDiff,zNf,s13],by simp only [zAT,ne_eq,Nat.reduceEqDiff,zNf,s14],by simp only [zAT,ne_eq,Nat.reduceEqDiff,zNf,s53],by simp only [zAU,sp_n,Nat.reduceLT,hn]⟩
      by_cases hji : j = i
      · subst hji
        rw [Array.getElem?_setIfInBounds,if_pos rfl,if_pos (by rw [Array.size_setIfInBounds]; omega)]
      · rw [Array.getElem?_setIfInBounds,if_neg (fun h => hji h.symm),Array.getElem?_setIfInBounds,if_neg (fun h => hji h.symm)]
        exact hcv j (by omega)
    · have hg : decide ((R : Int) ≤ (i : Int)) = false := decide_eq_false (by omega)
      have hg' : decide ((i : Int) ≥ (R : Int)) = false := decide_eq_false (by omega)
      have hdf : x.s i = dfE x.m x.s R i := by
        unfold dfE
        rw [if_pos (by omega)]
      refine Rn.reg hc rfl ?_
      simp only [zAY,zAU,zAT,sp_n,zAK,Nat.reduceLT,ne_eq,Nat.reduceEqDiff,zNf,gd,zAX,rops,fx,bin_geq,zOi,zEl,hn,s13,hg]
      (repeat (first | refine Rn.seq hc ?_ | refine Rn.skip hc ?_ | refine Rn.block hc ?_ | refine Rn.inBlock hc ?_ | refine Rn.scope hc ?_ | refine Rn.inScope hc ?_))
      refine Rn.zAM hc rfl ?_
      simp only [zAY,zAU,sp_n,Nat.reduceLT,Value.bool.injEq,zEl,hn]
      (repeat (first | refine Rn.seq hc ?_ | refine Rn.skip hc ?_ | refine Rn.block hc ?_ | refine Rn.inBlock hc ?_ | refine Rn.scope hc ?_ | refine Rn.inScope hc ?_))
      refine Rn.reg hc rfl ?_
      simp only [zAY,zAS,zAU,zAT,sp_n,Nat.reduceLT,ne_eq,Nat.reduceEqDiff,zNf,gd,zAX,rops,fx,zAH,zOi,zEl,hn,s54,zBZ (show i < 9223372036854775807 by omega)]
      (repeat (first | refine Rn.seq hc ?_ | refine Rn.skip hc ?_ | refine Rn.block hc ?_ | refine Rn.inBlock hc ?_ | refine Rn.scope hc ?_ | refine Rn.inScope hc ?_))
      refine ih _ _ _ (by omega) ⟨i + 1,_,by omega,rfl,hB2,by omega,h14',by rw [Array.size_setIfInBounds]; exact hcs,r2,fun j hj => ?_,by simp only [sp_n,hn],by simp only [zAT,ne_eq,Nat.reduceEqDiff,zNf,s4],by simp only [zAT,ne_eq,Nat.reduceEqDiff,zNf,s7],by simp only [zAT,ne_eq,Nat.reduceEqDiff,zNf,s9],by simp only [zAT,ne_eq,Nat.reduceEqDiff,zNf,s11],by simp only [zAT,ne_eq,Nat.reduceEqDiff,zNf,s12],by simp only [zAT,ne_eq,Nat.reduceEqDiff,zNf,s13],by simp only [zAT,ne_eq,Nat.reduceEqDiff,zNf,s14],by simp only [zAT,ne_eq,Nat.reduceEqDiff,zNf,s53],by simp only [zAU,sp_n,Nat.reduceLT,hn]⟩
      by_cases hji : j = i
      · subst hji
        rw [Array.getElem?_setIfInBounds,if_pos rfl,if_pos (by omega),hdf]
      · rw [Array.getElem?_setIfInBounds,if_neg (fun h => hji h.symm)]
        exact hcv j (by omega)
  · have hd : decide ((i : Int) < (L : Int)) = false := decide_eq_false (by omega)
    have hil : i = L := by omega
    subst hil
    clear ih
    have h9D := h9.nx hD
    have e1 := h9D.c1
    have hws : IntKind.i64.wrap ((i : Int) + (y.st.length : Int)) = ((i + y.st.length : Nat) : Int) := by rw [IntWalk.i64_in _ (by omega)]; omega
    refine Rn.reg hc rfl ?_
    simp only [zAY,gd,zAX,rops,fx,zAN,zOi,zEl,s53,s54,hd]
    (repeat (first | refine Rn.seq hc ?_ | refine Rn.skip hc ?_ | refine Rn.block hc ?_ | refine Rn.inBlock hc ?_ | refine Rn.scope hc ?_ | refine Rn.inScope hc ?_))
    refine Rn.zAM hc rfl ?_
    simp only [zAY,zAU,Nat.reduceLT,Value.bool.injEq,zEl,hn]
    (repeat (first | refine Rn.seq hc ?_ | refine Rn.skip hc ?_ | refine Rn.block hc ?_ | refine Rn.inBlock hc ?_ | refine Rn.scope hc ?_ | refine Rn.inScope hc ?_))
    refine Rn.exit hc rfl ?_
    (repeat (first | refine Rn.seq hc ?_ | refine Rn.skip hc ?_ | refine Rn.block hc ?_ | refine Rn.inBlock hc ?_ | refine Rn.scope hc ?_ | refine Rn.inScope hc ?_))
    refine Rn.reg hc rfl ?_
    simp only [zAY,zAU,zAT,sp_n,Nat.reduceLT,ne_eq,Nat.reduceEqDiff,zNf,gd,zAX,rops,fx,zOi,zEl,ae_mkfunc3,hn,s7,s12,s14,ae_mkfunc3]
    (repeat (first | refine Rn.seq hc ?_ | refine Rn.skip hc ?_ | refine Rn.block hc ?_ | refine Rn.inBlock hc ?_ | refine Rn.scope hc ?_ | refine Rn.inScope hc ?_))
    refine Rn.reg hc rfl ?_
    simp only [zAY,zAU,zAT,sp_n,Nat.reduceLT,ne_eq,Nat.reduceEqDiff,zNf,gd,zAX,rops,fx,ld,fad,lng,zAH,zAR,Nat.zero_add,zOi,zEl,tk22,zBO,un22,hn,s14,s9,h14,e1,hws]
    exact cv_first (hA.trans (hD.le nB)) ((hD.keep _ hRB).trans lR) hR (by omega) (h7.nx hD) h9D (h12.nx hD) h14 (by omega) (by omega) (fun j hj => by rw [zCE lE rfl]; exact hcv j hj) hm xl yl (by omega) hy0 hy (by omega) (by simp only [sp_n,hn]) (by simp only [zAT,ne_eq,Nat.reduceEqDiff,zNf,s4]) (by simp only [zAT,ne_eq,Nat.reduceEqDiff,zNf,s7]) (by simp only [zAT,ne_eq,Nat.reduceEqDiff,zNf,s9]) (by simp only [zAT,ne_eq,Nat.reduceEqDiff,zNf,s13]) (by simp only [zAU,zAT,sp_n,Nat.reduceLT,ne_eq,Nat.reduceEqDiff,zNf,hn]) (by simp only [zAU,sp_n,Nat.reduceLT,hn])
end Go.Proofs.Ytdaljohmfnfgiaa
namespace Go.Proofs.Ytdaljohmfnfgiaa
open Go Go.RowKit Go.Proofs.Ytdaljohmfnfgiaa.Canon
set_option maxRecDepth 20000
theorem least_has {A B D : AHeap} {x : Las} {a p : Nat} {sa ra : Option Addr} {v : Nat} (hr : Red x.s a p) (hx : Nx A.next A B) (h1 : Gr B sa A.next (redS x.s a)) (h2 : Gr B ra A.next (redR x.s a p)) (hD : Nx B.next B D) (hv : v < D.next) (ha : a ≤ 1000) (hp : p ≤ 1000)
    (c0 : cl D v 0 = some (.int .i64 x.m)) (c1 : cl D v 1 = some (.slice sa a a)) (c2 : cl D v 2 = some (.slice ra p p)) : ∃ x' : Las,Hs D v x' ∧ x'.m = x.m ∧ x'.s = x.s ∧ x'.st.length = a ∧ x'.ro.length = p := by
  refine ⟨⟨x.m,sa,a,redS x.s a,ra,p,redR x.s a p⟩,{ c0 := c0,c1 := ?_,c2 := ?_,ok := ⟨(h1.ints.nx hD (Nat.le_refl _)).mono (Nat.zero_le _) hD.next,(h2.ints.nx hD (Nat.le_refl _)).mono (Nat.zero_le _) hD.next,?_,?_⟩,lt := hv },rfl,zCC hr.per,zAL _ _,zAG _ _ _⟩
  · show _ = some (Value.slice _ (redS x.s a).length _)
    rw [zAL]
    exact c1
  · show _ = some (Value.slice _ (redR x.s a p).length _)
    rw [zAG]
    exact c2
  · show (redS x.s a).length < _
    rw [zAL]
    omega
  · show (redR x.s a p).length < _
    rw [zAG]
    omega
theorem convolve_run {A : AHeap} (hw : WF A) {x y : Las} (hox : x.ok A) (hoy : y.ok A) (hsx : Sl A x.sa 0) (hsy : Sl A y.sa 0) (hcx : x.st.length ≤ x.sc) (hcy : y.st.length ≤ y.sc) :
    Con Try.prog 49 [x.v,y.v] A (Tld A (errs [x,y] [x,y]) x.m (conv x.m x.s y.s)) := by
  refine zAF hc Try.func49 rfl (Nat.le_of_ble_eq_true rfl) ?_
  obtain ⟨A1,e1,hx1,hn1,b0,b1,b2⟩ := box3 hw (.int .i64 x.m) (.slice x.sa x.st.length x.sc) (.slice x.ra x.ro.length x.rc) 24
  obtain ⟨A2,e2,hx2,hn2,c0,c1,c2⟩ := box3 hx1.wf (.int .i64 y.m) (.slice y.sa y.st.length y.sc) (.slice y.ra y.ro.length y.rc) 24
  have hx02 : Nx A.next A A2 := hx1.trans (hx2.le hx1.next)
  have hxr : Nx A2.next A2 (A2.push (.cells #[.int .i64 0,.slice none 0 0,.slice none 0 0] 24)) := (Nx.refl hx2.wf _).push (Nat.le_refl _) _
  have lr := zAI A2 (.cells #[.int .i64 0,.slice none 0 0,.slice none 0 0] 24)
  have hnr : (A2.push (.cells #[.int .i64 0,.slice none 0 0,.slice none 0 0] 24)).next = A2.next + 1 := rfl
  generalize er : A2.push (.cells #[.int .i64 0,.slice none 0 0,.slice none 0 0] 24) = Ar at hxr lr hnr
  have b0 := (hxr.cl (show A.next < A2.next by omega) 0).trans ((hx2.cl (show A.next < A1.next by omega) 0).trans b0)
  have b1 := (hxr.cl (show A.next < A2.next by omega) 1).trans ((hx2.cl (show A.next < A1.next by omega) 1).trans b1)
  have b2 := (hxr.cl (show A.next < A2.next by omega) 2).trans ((hx2.cl (show A.next < A1.next by omega) 2).trans b2)
  have c0 := (hxr.cl (show A1.next < A2.next by omega) 0).trans c0
  have c1 := (hxr.cl (show A1.next < A2.next by omega) 1).trans c1
  have c2 := (hxr.cl (show A1.next < A2.next by omega) 2).trans c2
  have hx0r : Nx A.next A Ar := hx02.trans (hxr.le hx02.next)
  have hx3 : Nx Ar.next Ar (Ar.push (.cells #[.int .i64 x.m,.slice x.sa x.st.length x.sc,.slice x.ra x.ro.length x.rc,.int .i64 y.m,.slice y.sa y.st.length y.sc,.slice y.ra y.ro.length y.rc] 24)) := (Nx.refl hx0r.wf _).push (Nat.le_refl _) _
  have l3 := zAI Ar (.cells #[.int .i64 x.m,.slice x.sa x.st.length x.sc,.slice x.ra x.ro.length x.rc,.int .i64 y.m,.slice y.sa y.st.length y.sc,.slice y.ra y.ro.length y.rc] 24)
  have hn3 : (Ar.push (.cells #[.int .i64 x.m,.slice x.sa x.st.length x.sc,.slice x.ra x.ro.length x.rc,.int .i64 y.m,.slice y.sa y.st.length y.sc,.slice y.ra y.ro.length y.rc] 24)).next = Ar.next + 1 := rfl
  generalize e3 : Ar.push (.cells #[.int .i64 x.m,.slice x.sa x.st.length x.sc,.slice x.ra x.ro.length x.rc,.int .i64 y.m,.slice y.sa y.st.length y.sc,.slice y.ra y.ro.length y.rc] 24) = A3 at hx3 l3 hn3
  have hx03 : Nx A.next A A3 := hx0r.trans (hx3.le hx0r.next)
  have hrow := row_two (hox.nx hx03) (hoy.nx hx03) (b := Ar.next) (by omega) l3
  rw [s_in2]
  unfold Las.v
  (repeat (first | refine Rn.seq hc ?_ | refine Rn.skip hc ?_ | refine Rn.block hc ?_ | refine Rn.inBlock hc ?_ | refine Rn.scope hc ?_ | refine Rn.inScope hc ?_))
  refine Rn.reg hc rfl ?_
  simp only [zAY,zAS,zAU,zAT,sp_n,Nat.reduceLT,ne_eq,Nat.reduceEqDiff,zNf,gd,zAX,rops,fx,zOi,zEl,Value.cells,show Try.f49.ntmps = 129 from rfl,e1,e2,ze24,er]
  (repeat (first | refine Rn.seq hc ?_ | refine Rn.skip hc ?_ | refine Rn.block hc ?_ | refine Rn.inBlock hc ?_ | refine Rn.scope hc ?_ | refine Rn.inScope hc ?_))
  refine Rn.region hc fun K hK => ?_
  refine Wo.run hc 3 rfl rfl rfl ?_
  simp (maxSteps := 2000000) only [List.drop_zero,List.take_succ_cons,List.take_zero,zAY,zAU,zAT,sp_n,Nat.reduceLT,ne_eq,Nat.reduceEqDiff,not_false_eq_true,gd,zAX,List.nil_append,List.cons_append,rops,fx,ld,zAR,cls,Nat.zero_add,Option.some.injEq,exists_eq_left',Value.cells,Nat.reduceAdd,tk24,b0,b1,b2,c0,c1,c2,bs46_2,List.size_toArray,List.length_cons,List.length_nil,List.cons_append,List.nil_append,e3]
  refine Wo.call hc (by rfl) (by rfl) ⟨by rfl,by rfl⟩ (xs := [.slice (some ⟨Ar.next,0,none⟩) 2 2]) (by rfl) (by rfl) (by rfl) (Con.mono (check_all hx3.wf (l := [x,y]) hrow (by simp)) ?_)
  rintro w A4 ⟨rfl,hx4⟩
  refine Wo.run hc 1 rfl rfl rfl ?_
  simp (maxSteps := 2000000) only [List.drop_zero,List.drop_succ_cons,List.take_succ_cons,List.take_zero,zAY,zAU,sp_n,Nat.reduceLT,gd,zAX,rops,fx,Option.some.injEq,exists_eq_left',Nat.reduceAdd]
  refine Wo.done hc rfl (hK _ _ ?_)
  clear hK
  (repeat (first | refine Rn.seq hc ?_ | refine Rn.skip hc ?_ | refine Rn.block hc ?_ | refine Rn.inBlock hc ?_ | refine Rn.scope hc ?_ | refine Rn.inScope hc ?_))
  have hxr4 : Nx Ar.next Ar A4 := hx3.trans (hx4.le hx3.next)
  have hx04 : Nx A.next A A4 := hx0r.trans (hxr4.le hx0r.next)
  have n4 : Ar.next < A4.next := by have := hx4.next; omega
  have b0 := (hxr4.cl (show A.next < Ar.next by omega) 0).trans b0
  have b1 := (hxr4.cl (show A.next < Ar.next by omega) 1).trans b1
  have b2 := (hxr4.cl (show A.next < Ar.next by omega) 2).trans b2
  have c0 := (hxr4.cl (show A1.next < Ar.next by omega) 0).trans c0
  have c1 := (hxr4.cl (show A1.next < Ar.next by omega) 1).trans c1
  have c2 := (hxr4.cl (show A1.next < Ar.next by omega) 2).trans c2
  have l4 : Canon.look A4.objs A2.next = _ := (hxr4.keep _ (by omega)).trans lr
  by_cases he : errs [x,y] [x,y] = 0
  · have hd : (!decide (errs [x,y] [x,y] = 0)) = false := by rw [decide_eq_true he]; rfl
    obtain ⟨ex,ey,exy⟩ := errs_two0 he
    obtain ⟨m1,m2,m3⟩ := err_len ex
    obtain ⟨k1,k2,k3⟩ := err_len ey
    obtain ⟨mx,lx⟩ := err_lim ex
    obtain ⟨my,ly⟩ := err_lim ey
    refine Rn.reg hc rfl ?_
    simp only [zAY,zAS,zAU,sp_n,Nat.reduceLT,gd,zAX,rops,fx,zBX,zOi,zEl,hd]
    (repeat (first | refine Rn.seq hc ?_ | refine Rn.skip hc ?_ | refine Rn.block hc ?_ | refine Rn.inBlock hc ?_ | refine Rn.scope hc ?_ | refine Rn.inScope hc ?_))
    refine Rn.zAM hc rfl ?_
    simp only [zAY,zAU,sp_n,Nat.reduceLT,Value.bool.injEq,zEl]
    (repeat (first | refine Rn.seq hc ?_ | refine Rn.skip hc ?_ | refine Rn.block hc ?_ | refine Rn.inBlock hc ?_ | refine Rn.scope hc ?_ | refine Rn.inScope hc ?_))
    rw [he]
    obtain ⟨o1,o2,o3,o4⟩ := hox.nx hx04
    refine Rn.region hc fun K hK => ?_
    refine Wo.run hc 1 rfl rfl rfl ?_
    simp (maxSteps := 2000000) only [List.drop_zero,List.take_succ_cons,List.take_zero,zAY,zAU,zAT,sp_n,Nat.reduceLT,ne_eq,Nat.reduceEqDiff,not_false_eq_true,gd,zAX,rops,fx,ld,zAR,cls,Nat.zero_add,Option.some.injEq,exists_eq_left',Nat.reduceAdd,tk24,b0,b1,b2]
    refine Wo.call hc (by rfl) (by rfl) ⟨by rfl,by rfl⟩ (xs := [.agg #[.int .i64 x.m,.slice x.sa x.st.length x.sc,.slice x.ra x.ro.length x.rc]]) (by rfl) (by rfl) (by rfl) (Con.mono (least_of hx04.wf o1 o2 o3 o4 (hsx.nx hw hx04) hcx) ?_)
    rintro w B1 ⟨hL,-⟩
    obtain ⟨a,p,hr,ha,hp,hB1,hq⟩ := hL ex
    rw [if_neg (by omega)] at hq
    obtain ⟨sa,ra,rfl,ga,gr⟩ := hq
    obtain ⟨B2,q2,hB2,hm2,f0,f1,f2⟩ := put24 hB1.wf (v0 := .int .i64 x.m) (v1 := .slice sa a a) (v2 := .slice ra p p) rfl
    refine Wo.run hc 6 rfl rfl rfl ?_
    simp (maxSteps := 2000000) only [List.drop_zero,List.drop_succ_cons,List.take_succ_cons,List.take_zero,zAY,zAU,zAT,sp_n,zAK,Nat.reduceLT,ne_eq,Nat.reduceEqDiff,not_false_eq_true,gd,zAX,rops,fx,str,ext,zAR,List.getElem?_toArray,List.getElem?_cons_zero,List.getElem?_cons_succ,Nat.zero_add,Option.some.injEq,exists_eq_left',Value.cells,Nat.reduceAdd,tk24,ext,ze24,q2,List.size_toArray,List.length_cons,List.length_nil,Nat.beq_refl]
    refine Wo.done hc rfl (hK _ _ ?_)
    clear hK
    (repeat (first | refine Rn.seq hc ?_ | refine Rn.skip hc ?_ | refine Rn.block hc ?_ | refine Rn.inBlock hc ?_ | refine Rn.scope hc ?_ | refine Rn.inScope hc ?_))
    have hm1 := hB1.next
    obtain ⟨x',hX,xm,xs,xst,xro⟩ := least_has hr hB1 ga gr hB2 (by omega) (by omega) (by omega) f0 f1 f2
    have h42 : Nx A4.next A4 B2 := hB1.trans (hB2.le hm1)
    have c0 := (h42.cl (show A1.next < A4.next by omega) 0).trans c0
    have c1 := (h42.cl (show A1.next < A4.next by omega) 1).trans c1
    have c2 := (h42.cl (show A1.next < A4.next by omega) 2).trans c2
    obtain ⟨o1,o2,o3,o4⟩ := hoy.nx (hx04.trans (h42.le hx04.next))
    clear f0 f1 f2 q2 ga gr
    refine Rn.region hc fun K hK => ?_
    refine Wo.run hc 1 rfl rfl rfl ?_
    simp (maxSteps := 2000000) only [List.drop_zero,List.take_succ_cons,List.take_zero,zAY,zAU,zAT,sp_n,Nat.reduceLT,ne_eq,Nat.reduceEqDiff,not_false_eq_true,gd,zAX,rops,fx,ld,zAR,cls,Nat.zero_add,Option.some.injEq,exists_eq_left',Nat.reduceAdd,tk24,c0,c1,c2]
    refine Wo.call hc (by rfl) (by rfl) ⟨by rfl,by rfl⟩ (xs := [.agg #[.int .i64 y.m,.slice y.sa y.st.length y.sc,.slice y.ra y.ro.length y.rc]]) (by rfl) (by rfl) (by rfl) (Con.mono (least_of h42.wf o1 o2 o3 o4 (hsy.nx hw (hx04.trans (h42.le hx04.next))) hcy) ?_)
    rintro w B3 ⟨hL,-⟩
    obtain ⟨a',p',hr',ha',hp',hB3,hq⟩ := hL ey
    rw [if_neg (by omega)] at hq
    obtain ⟨sa',ra',rfl,ga,gr⟩ := hq
    obtain ⟨B4,q4,hB4,hm4,f0,f1,f2⟩ := put24 hB3.wf (v0 := .int .i64 y.m) (v1 := .slice sa' a' a') (v2 := .slice ra' p' p') rfl
    refine Wo.run hc 6 rfl rfl rfl ?_
    simp (maxSteps := 2000000) only [List.drop_zero,List.drop_succ_cons,List.take_succ_cons,List.take_zero,zAY,zAU,zAT,sp_n,zAK,Nat.reduceLT,ne_eq,Nat.reduceEqDiff,not_false_eq_true,gd,zAX,rops,fx,str,ext,zAR,List.getElem?_toArray,List.getElem?_cons_zero,List.getElem?_cons_succ,Nat.zero_add,Option.some.injEq,exists_eq_left',Value.cells,Nat.reduceAdd,tk24,ext,ze24,q4,List.size_toArray,List.length_cons,List.length_nil,Nat.beq_refl]
    refine Wo.done hc rfl (hK _ _ ?_)
    clear hK
    (repeat (first | refine Rn.seq hc ?_ | refine Rn.skip hc ?_ | refine Rn.block hc ?_ | refine Rn.inBlock hc ?_ | refine Rn.scope hc ?_ | refine Rn.inScope hc ?_))
    have hm3 := hB3.next
    obtain ⟨y',hY,ym,ys,yst,yro⟩ := least_has hr' hB3 ga gr hB4 (by omega) (by omega) (by omega) f0 f1 f2
    have h24 : Nx B2.next B2 B4 := hB3.trans (hB4.le hm3)
    have h44 : Nx A4.next A4 B4 := h42.trans (h24.le h42.next)
    have hX4 := hX.nx h24
    have g0 := hX4.c0
    have g1 := hX4.c1
    have g2 := hX4.c2
    have f0 := hY.c0
    have f1 := hY.c1
    have f2 := hY.c2
    have lX := hX4.lt
    have lY := hY.lt
    have hAB4 : Nx A.next A B4 := hx04.trans (h44.le hx04.next)
    obtain ⟨b7,hb7⟩ : ∃ b,b = B1.next := ⟨_,rfl⟩
    obtain ⟨b9,hb9⟩ : ∃ b,b = B3.next := ⟨_,rfl⟩
    rw [← hb7] at hX4 g0 g1 g2 lX
    rw [← hb9] at hY f0 f1 f2 lY
    refine Rn.slots (I := fun s => s.n = 129 ∧ sget s 4 = .pointer (some ⟨A2.next,0,none⟩) ∧ sget s 7 = .pointer (some ⟨b7,0,none⟩) ∧ sget s 9 = .pointer (some ⟨b9,0,none⟩))
      ⟨by simp only [sp_n],by simp only [zAU,zAT,sp_n,Nat.reduceLT,ne_eq,Nat.reduceEqDiff,zNf],by simp only [zAU,zAT,sp_n,Nat.reduceLT,ne_eq,Nat.reduceEqDiff,zNf,hb7],by simp only [zAU,zAT,sp_n,Nat.reduceLT,ne_eq,Nat.reduceEqDiff,zNf,hb9]⟩ ?_
    rintro s ⟨hn,s4,s7,s9⟩
    obtain ⟨F,hFb,hF⟩ : ∃ F : AHeap → Prop,(∀ M,F M → ∀ b,b < B4.next → ∀ o,cl M b o = cl B4 b o) ∧ (∀ M,(∀ b,b < B4.next → Canon.look M.objs b = Canon.look B4.objs b) → F M) := ⟨fun M => ∀ b,b < B4.next → Canon.look M.objs b = Canon.look B4.objs b,fun M h b hb o => zBW (h b hb),fun _ h => h⟩
    have X0 := fun M hM => (hFb M hM _ lX 0).trans g0
    have X1 := fun M hM => (hFb M hM _ lX 1).trans g1
    have X2 := fun M hM => (hFb M hM _ lX 2).trans g2
    have Y0 := fun M hM => (hFb M hM _ lY 0).trans f0
    have Y1 := fun M hM => (hFb M hM _ lY 1).trans f1
    have Y2 := fun M hM => (hFb M hM _ lY 2).trans f2
    have hwB := hB4.wf
    have hbk : Nx B4.next B4 (bump B4 8) := Nx.bump (Nx.refl hwB _) 8
    have FB : F (bump B4 8) := hF _ fun b _ => rfl
    refine Rn.drawnL hc hx noS F (E := [5,4,6]) (n := 7) (k := 8) (by kernel_rfl) (by kernel_rfl) (by rfl) (by kernel_rfl) ?_
    refine DrL.read (by first | rfl | kernel_rfl) (by rfl) (by assumption) (fun M hM => by simp only [zAY,fx,ld,zAR,cls,Nat.zero_add,Nat.reduceAdd,tk24,s7,X0 M hM,X1 M hM,X2 M hM] <;> rfl) (by rfl) (by first | exact VQ.int _ _ | exact VQ.bool _ | exact VQ.ptr _ _ | exact VQ.slice _ _ _ | exact VQ.func (by simp [zAW,zAV,zAZ]) (by simp [zAW,zAV,zAZ]) | exact VQ.agg (by simp [zAW,zAZ]) | exact VQ.tuple (by simp [zAW,zAV,zAZ])) ?_
    refine DrL.read (by first | rfl | kernel_rfl) (by rfl) (by assumption) (fun M hM => by simp only [zAY,zAU,Nat.reduceLT,fx,Nat.zero_add,Value.cells,Nat.reduceAdd,hn,bd86,List.size_toArray,List.length_cons,List.length_nil] <;> rfl) (by rfl) (by first | exact VQ.int _ _ | exact VQ.bool _ | exact VQ.ptr _ _ | exact VQ.slice _ _ _ | exact VQ.func (by simp [zAW,zAV,zAZ]) (by simp [zAW,zAV,zAZ]) | exact VQ.agg (by simp [zAW,zAZ]) | exact VQ.tuple (by simp [zAW,zAV,zAZ])) ?_
    refine DrL.read (by first | rfl | kernel_rfl) (by rfl) (by assumption) (fun M hM => by simp only [zAY,zAT,ne_eq,Nat.reduceEqDiff,zNf,fx,ld,zAR,cls,Nat.zero_add,Nat.reduceAdd,tk24,s9,Y0 M hM,Y1 M hM,Y2 M hM] <;> rfl) (by rfl) (by first | exact VQ.int _ _ | exact VQ.bool _ | exact VQ.ptr _ _ | exact VQ.slice _ _ _ | exact VQ.func (by simp [zAW,zAV,zAZ]) (by simp [zAW,zAV,zAZ]) | exact VQ.agg (by simp [zAW,zAZ]) | exact VQ.tuple (by simp [zAW,zAV,zAZ])) ?_
    refine DrL.read (by first | rfl | kernel_rfl) (by rfl) (by assumption) (fun M hM => by simp only [zAY,zAU,sp_n,Nat.reduceLT,fx,Nat.zero_add,Value.cells,Nat.reduceAdd,hn,bd86,List.size_toArray,List.length_cons,List.length_nil] <;> rfl) (by rfl) (by first | exact VQ.int _ _ | exact VQ.bool _ | exact VQ.ptr _ _ | exact VQ.slice _ _ _ | exact VQ.func (by simp [zAW,zAV,zAZ]) (by simp [zAW,zAV,zAZ]) | exact VQ.agg (by simp [zAW,zAZ]) | exact VQ.tuple (by simp [zAW,zAV,zAZ])) ?_
    refine DrL.float (by rfl) (by rfl) (by rfl) fbal86 ?_
    refine DrL.float (by rfl) (by rfl) (by rfl) fbal86 ?_
    obtain ⟨C3,p3,w3,n3,l3,kp3⟩ := place_al hbk.wf (b := B4.next + 5) (by rw [zAD]; omega) (hwB.none (by omega)) [.int .i64 0,.slice none 0 0,.slice none 0 0] 86
    have F3 := hF C3 fun b hb => kp3 _ (by omega)
    rw [zAD] at n3
    obtain ⟨C4,p4,w4,n4',l4',kp4⟩ := place_al w3 (b := B4.next + 4) (by omega) (by rw [kp3 _ (by omega)]; exact hwB.none (by omega)) [.int .i64 0,.slice none 0 0,.slice none 0 0] 86
    have F4 := hF C4 fun b hb => by rw [kp4 _ (by omega),kp3 _ (by omega)]; rfl
    obtain ⟨C5,c5,u1,u2,u3,u4⟩ := zCV (l := [.int .i64 x'.m,.slice x'.sa x'.st.length x'.sc,.slice x'.ra x'.ro.length x'.rc]) (o := 0) l4' rfl (by simp) rfl
    have F5 := hF C5 fun b hb => by rw [u2.off _ (by omega),kp4 _ (by omega),kp3 _ (by omega)]; rfl
    refine DrL.eff (by rfl) (by rfl) (pd1 := [(5,⟨[.int .i64 0,.slice none 0 0,.slice none 0 0],86,.ptr⟩),(4,⟨[.int .i64 0,.slice none 0 0,.slice none 0 0],86,.ptr⟩)]) (pd2 := []) (by kernel_rfl) (by kernel_rfl) (ms0 := [bump B4 8,C3]) (A0 := C4) (by simp only [zBU,p3,p4]) (fun M hM => by
        rcases List.mem_cons.1 hM with rfl | hM
        · exact FB
        · rw [List.mem_singleton] at hM; rw [hM]; exact F3) F4 (by rfl)
      (v := undef) (A1 := C5) (zBQ rfl (fx_ok (by rfl) (by simp only [zAY,zAU,zAT,sp_n,Nat.reduceLT,ne_eq,Nat.reduceEqDiff,zNf,fx,str,zAR,Nat.zero_add,Nat.reduceAdd,tk86,hn,FK.val,u1,List.size_toArray,List.length_cons,List.length_nil,Nat.beq_refl]))) ?_
    have l5 : Canon.look C5.objs (B4.next + 5) = _ := (u2.off _ (by omega)).trans ((kp4 _ (by omega)).trans l3)
    obtain ⟨C6,c6,v1,v2,v3,v4⟩ := zCV (l := [.int .i64 y'.m,.slice y'.sa y'.st.length y'.sc,.slice y'.ra y'.ro.length y'.rc]) (o := 0) l5 rfl (by simp) rfl
    have n5 := u2.next
    have n6 := v2.next
    refine DrL.eff (by rfl) (by rfl) (pd1 := []) (pd2 := []) (by kernel_rfl) (by kernel_rfl) (ms0 := []) (A0 := C5) rfl (fun _ h => by cases h) F5 (by rfl)
      (v := undef) (A1 := C6) (zBQ rfl (fx_ok (by rfl) (by simp only [zAY,zAU,zAT,sp_n,zAK,Nat.reduceLT,ne_eq,Nat.reduceEqDiff,zNf,fx,str,zAR,Nat.zero_add,Nat.reduceAdd,tk86,hn,FK.val,v1,List.size_toArray,List.length_cons,List.length_nil,Nat.beq_refl]))) ?_
    refine DrL.nil ⟨by rfl,C6,by rfl,?_⟩
    have hC6 : Nx B4.next B4 C6 := ⟨by omega,(v2.nx (u2.nx w4 (Nat.zero_le _)).wf (Nat.zero_le _)).wf,fun b hb => by rw [v2.off _ (by omega),u2.off _ (by omega),kp4 _ (by omega),kp3 _ (by omega)]; rfl⟩
    have hX6 := hX4.nx hC6
    have hY6 := hY.nx hC6
    have h11 : Hs C6 (B4.next + 4) x' := { c0 := by rw [zBW (v2.off _ (by omega)),u2.cl,u4]; rfl,c1 := by rw [zBW (v2.off _ (by omega)),u2.cl,u4]; rfl,c2 := by rw [zBW (v2.off _ (by omega)),u2.cl,u4]; rfl,ok := hX6.ok,lt := by omega }
    have h12 : Hs C6 (B4.next + 5) y' := { c0 := by rw [v2.cl,v4]; rfl,c1 := by rw [v2.cl,v4]; rfl,c2 := by rw [v2.cl,v4]; rfl,ok := hY6.ok,lt := by omega }
    have d2 := hX6.c2
    have hp0 := hr.per.pos
    have hp0' := hr'.per.pos
    have lR6 : Canon.look C6.objs A2.next = _ := (hC6.keep _ (by omega)).trans ((h44.keep _ (by omega)).trans l4)
    have hA6 : Nx A.next A C6 := hAB4.trans (hC6.le hAB4.next)
    (repeat (first | refine Rn.seq hc ?_ | refine Rn.skip hc ?_ | refine Rn.block hc ?_ | refine Rn.inBlock hc ?_ | refine Rn.scope hc ?_ | refine Rn.inScope hc ?_))
    refine Rn.reg hc rfl ?_
    simp only [zAY,zAU,zAT,sp_n,zAK,Nat.reduceLT,ne_eq,Nat.reduceEqDiff,zNf,gd,zAX,rops,fx,ld,fad,lng,zAR,Nat.zero_add,zOi,zEl,Nat.reduceAdd,tk22,zBG,un22,hn,s7,d2,FK.val]
    have key := fun s hn s4 s7 s9 s11 s12 s13 => cv_ends hA6 (bR := A2.next) (b7 := b7) (b9 := b9) (b11 := B4.next + 4) (b12 := B4.next + 5) (R := x'.ro.length) (s := s) lR6 (by omega) (by have := hC6.next; omega) hX6 hY6 h11 h12 (by rw [xm]; exact mx) (fun n => by rw [xs,xm]; exact lx n) (fun n => by rw [ys,xm,exy]; exact ly n) (by omega) (by omega) (by omega) (by omega) rfl hn s4 s7 s9 s11 s12 s13
    rw [xm,xs,ys] at key
    exact key _ (by simp only [sp_n,hn]) (by simp only [zAT,ne_eq,Nat.reduceEqDiff,zNf,s4]) (by simp only [zAT,ne_eq,Nat.reduceEqDiff,zNf,s7]) (by simp only [zAT,ne_eq,Nat.reduceEqDiff,zNf,s9]) (by simp only [zAU,zAT,sp_n,Nat.reduceLT,ne_eq,Nat.reduceEqDiff,zNf,hn]) (by simp only [zAU,zAT,sp_n,Nat.reduceLT,ne_eq,Nat.reduceEqDiff,zNf,hn]) (by simp only [zAU,sp_n,Nat.reduceLT,hn])
  · have hd : (!decide (errs [x,y] [x,y] = 0)) = true := by rw [decide_eq_false he]; rfl
    obtain ⟨D,q1,g0,g1,g2,hxD⟩ := err_fin hx04 (by omega) (by omega) l4
    refine Rn.reg hc rfl ?_
    simp only [zAY,zAS,zAU,sp_n,Nat.reduceLT,gd,zAX,rops,fx,zBX,zOi,zEl,hd]
    (repeat (first | refine Rn.seq hc ?_ | refine Rn.skip hc ?_ | refine Rn.block hc ?_ | refine Rn.inBlock hc ?_ | refine Rn.scope hc ?_ | refine Rn.inScope hc ?_))
    refine Rn.zAM hc rfl ?_
    simp only [zAY,zAU,sp_n,Nat.reduceLT,Value.bool.injEq,zEl]
    (repeat (first | refine Rn.seq hc ?_ | refine Rn.skip hc ?_ | refine Rn.block hc ?_ | refine Rn.inBlock hc ?_ | refine Rn.scope hc ?_ | refine Rn.inScope hc ?_))
    refine Rn.reg hc rfl ?_
    simp only [zAY,zAU,zAT,sp_n,zAK,Nat.reduceLT,ne_eq,Nat.reduceEqDiff,zNf,gd,zAX,rops,fx,str,zAR,Nat.zero_add,zOi,zEl,Nat.reduceAdd,tk24,bd24_z,q1,List.size_toArray,List.length_cons,List.length_nil,Nat.beq_refl]
    (repeat (first | refine Rn.seq hc ?_ | refine Rn.skip hc ?_ | refine Rn.block hc ?_ | refine Rn.inBlock hc ?_ | refine Rn.scope hc ?_ | refine Rn.inScope hc ?_))
    refine Rn.ret (zCT rfl (v := .agg #[.int .i64 0,.slice none 0 0,.slice none 0 0]) ?_ ?_)
    · simp only [zAU,zAT,sp_n,Nat.reduceLT,ne_eq,Nat.reduceEqDiff,zNf,ld,zAR,cls,Nat.zero_add,Nat.reduceAdd,tk24,g0,g1,g2]
    · simp only [zAU,sp_n,Nat.reduceLT]
      exact tld_err he hxD
end Go.Proofs.Ytdaljohmfnfgiaa
namespace Go.Proofs.Ytdaljohmfnfgiaa
open Go Go.RowKit Go.Proofs.Ytdaljohmfnfgiaa.Canon
set_option maxRecDepth 20000
def sumF (g : Nat → Int) : Nat → Int
  | 0 => 0
  | k + 1 => sumF g k + g k
theorem sumF_front (g : Nat → Int) : ∀ k,sumF g (k + 1) = g 0 + sumF (fun i => g (i + 1)) k
  | 0 => by simp [sumF]
  | k + 1 => by
    show sumF g (k + 1) + g (k + 1) = g 0 + (sumF (fun i => g (i + 1)) k + g (k + 1))
    rw [sumF_front g k]
    omega
theorem sumF_congr {g h : Nat → Int} : ∀ k,(∀ i,i < k → g i = h i) → sumF g k = sumF h k
  | 0,_ => rfl
  | k + 1,e => by
    show sumF g k + g k = sumF h k + h k
    rw [sumF_congr k (fun i hi => e i (by omega)),e k (by omega)]
theorem sumF_rev (g : Nat → Int) : ∀ k,sumF g (k + 1) = sumF (fun i => g (k - i)) (k + 1)
  | 0 => rfl
  | k + 1 => by
    rw [sumF_front (fun i => g (k + 1 - i)) (k + 1)]
    show sumF g (k + 1) + g (k + 1) = g (k + 1 - 0) + sumF (fun i => g (k + 1 - (i + 1))) (k + 1)
    rw [sumF_rev g k,Int.add_comm]
    congr 1
    exact sumF_congr _ fun i hi => by rw [Nat.add_sub_add_right]
theorem cvA_sum (a b : Nat → Int) (n : Nat) : ∀ k,cvA a b n k = sumF (fun i => a i * b (n - i)) k
  | 0 => rfl
  | k + 1 => by
    show cvA a b n k + a k * b (n - k) = _
    rw [cvA_sum a b n k]
    rfl
theorem conv_comm (m : Int) (a b : Nat → Int) : conv m a b = conv m b a := by
  funext n
  unfold conv
  rw [cvA_sum,cvA_sum,sumF_rev]
  congr 1
  refine sumF_congr _ fun i hi => ?_
  rw [Int.mul_comm,show n - (n - i) = i by omega]
theorem cvP_conv {m : Int} {a b : Nat → Int} {N R : Nat} (h : Per a N R) : cvP m a b R (N + R) = conv m (dfE m a R) b := by
  funext n
  unfold cvP conv
  rw [emod_of_dvd (cvM_mod _),cvA_min (fun i hi => dfE_stop h hi)]
theorem conv_twice {m : Int} {a b : Nat → Int} {N R N' R' : Nat} (h : Per a N R) (h' : Per b N' R') : scn m (scn m (conv m (dfE m a R) (dfE m b R')) R) R' = conv m a b := by
  have e1 : scn m (conv m (dfE m a R) (dfE m b R')) R = conv m a (dfE m b R') := by
    rw [← cvP_conv h]
    funext n
    exact cvP_scn h n
  rw [e1,conv_comm m a,← cvP_conv h']
  funext n
  rw [cvP_scn h' n,conv_comm m a]
theorem cvA_zero {a b : Nat → Int} {n La Lb : Nat} (ha : ∀ i,La ≤ i → a i = 0) (hb : ∀ i,Lb ≤ i → b i = 0) (hn : La + Lb ≤ n) : ∀ k,cvA a b n k = 0
  | 0 => rfl
  | k + 1 => by
    show cvA a b n k + a k * b (n - k) = 0
    rw [cvA_zero ha hb hn k,Int.zero_add]
    by_cases hk : La ≤ k
    · rw [ha k hk,Int.zero_mul]
    · rw [hb (n - k) (by omega),Int.mul_zero]
def rwS (a b : Nat → Int) (t i : Nat) : Int := sumF (fun i => if i ≤ t then a i * b (t - i) else 0) i
theorem rwS_all {a b : Nat → Int} {La : Nat} (ha : ∀ i,La ≤ i → a i = 0) (t : Nat) : rwS a b t La = cvA a b t (t + 1) := by
  have h1 : ∀ k,k ≤ t + 1 → rwS a b t k = cvA a b t k := fun k hk => by
    rw [cvA_sum]
    exact sumF_congr _ fun i hi => if_pos (by omega)
  by_cases hl : La ≤ t + 1
  · rw [h1 La hl,show t + 1 = La + (t + 1 - La) by omega,cvA_stop ha]
  · have h2 : ∀ d,rwS a b t (t + 1 + d) = rwS a b t (t + 1) := fun d => by
      induction d with
      | zero => rfl
      | succ d ih =>
        show rwS a b t (t + 1 + d) + (if t + 1 + d ≤ t then _ else 0) = _
        rw [if_neg (by omega),Int.add_zero,ih]
    rw [show La = t + 1 + (La - (t + 1)) by omega,h2,h1 _ (Nat.le_refl _)]
theorem rwS_out {a b : Nat → Int} {Lb t i : Nat} (hb : ∀ j,Lb ≤ j → b j = 0) (h : t < i ∨ i + Lb ≤ t) : rwS a b t (i + 1) = rwS a b t i := by
  show rwS a b t i + (if i ≤ t then a i * b (t - i) else 0) = _
  by_cases hi : i ≤ t
  · rw [if_pos hi,hb _ (by omega),Int.mul_zero,Int.add_zero]
  · rw [if_neg hi,Int.add_zero]
theorem rwS_in {a b : Nat → Int} {i k : Nat} : rwS a b (i + k) (i + 1) = rwS a b (i + k) i + a i * b k := by
  show rwS a b (i + k) i + (if i ≤ i + k then a i * b (i + k - i) else 0) = _
  rw [if_pos (by omega),Nat.add_sub_cancel_left]
def cxS : Canon.Spec := fun g xs A v A1 => match g with
  | 90 => (∀ n m : Int,xs = [.int .i64 n,.int .i64 m] → v = .int .i64 (nrm n m)) ∧ Nx A.next A A1
  | _ => atS 74 xs A v A1
theorem residue_cx {A : AHeap} (hw : WF A) {n m : Int} (hm : 0 < m ∧ m ≤ 65521) : Con Try.prog 90 [.int .i64 n,.int .i64 m] A (cxS 90 [.int .i64 n,.int .i64 m] A) :=
  Con.mono (residue_ref hw hm) fun v A1 h => ⟨fun n' m' e => by
    simp only [List.cons.injEq,Value.int.injEq,true_and,and_true] at e
    obtain ⟨rfl,rfl⟩ := e
    exact h.1,h.2⟩
theorem at_cx {A : AHeap} (hw : WF A) {x : Las} (hox : x.ok A) (n : Nat) (hro : 0 < x.ro.length) (hn : n < 9223372036854775808) :
    Con Try.prog 74 [x.v,.int .i64 (n : Int)] A (cxS 74 [x.v,.int .i64 (n : Int)] A) := at_ref_S hw hox.1 hox.2.1 n hox.2.2.1 hro hox.2.2.2 hn
theorem whole_ref {A : AHeap} (hw : WF A) {x : Las} (hox : x.ok A) (hm : 2 ≤ x.m ∧ x.m ≤ 65521) (xl : ∀ n,0 ≤ x.s n ∧ x.s n < x.m) (hx0 : x.st.length ≤ 60) (hxr : 1 ≤ x.ro.length ∧ x.ro.length ≤ 120) :
    Con Try.prog 94 [x.v] A (fun v A1 => ∃ a,v = .slice a (x.st.length + x.ro.length) (x.st.length + x.ro.length) ∧ Nx A.next A A1 ∧ Ints A1 a A.next A1.next (redS (dfE x.m x.s x.ro.length) (x.st.length + x.ro.length))) := by
  refine zAF hc Try.func94 rfl (Nat.le_of_ble_eq_true rfl) ?_
  obtain ⟨A1,e1,hx1,hn1,b0,b1,b2⟩ := box3 hw (.int .i64 x.m) (.slice x.sa x.st.length x.sc) (.slice x.ra x.ro.length x.rc) 24
  obtain ⟨L,hL⟩ : ∃ L,L = x.st.length + x.ro.length := ⟨_,rfl⟩
  have hwL : IntKind.i64.wrap ((x.st.length : Int) + (x.ro.length : Int)) = (L : Int) := by rw [IntWalk.i64_in _ (by omega)]; omega
  rw [← hL]
  have hX : Hs A1 A.next x := { c0 := b0,c1 := b1,c2 := b2,ok := hox.nx hx1,lt := by omega }
  obtain ⟨o1,o2,o3,o4⟩ := hX.ok
  rw [s_in1]
  unfold Las.v
  (repeat (first | refine Rn.seq hc ?_ | refine Rn.skip hc ?_ | refine Rn.block hc ?_ | refine Rn.inBlock hc ?_ | refine Rn.scope hc ?_ | refine Rn.inScope hc ?_))
  refine Rn.reg hc rfl ?_
  simp only [zAY,zAS,zAU,Nat.reduceLT,gd,zAX,rops,fx,zOi,zEl,Value.cells,show Try.f94.ntmps = 41 from rfl,e1]
  (repeat (first | refine Rn.seq hc ?_ | refine Rn.skip hc ?_ | refine Rn.block hc ?_ | refine Rn.inBlock hc ?_ | refine Rn.scope hc ?_ | refine Rn.inScope hc ?_))
  refine Rn.region hc fun K hK => ?_
  refine Wo.run hc 8 rfl rfl rfl ?_
  simp (maxSteps := 2000000) only [List.drop_zero,List.take_succ_cons,List.take_zero,zAY,zAU,zAT,sp_n,Nat.reduceLT,ne_eq,Nat.reduceEqDiff,not_false_eq_true,gd,zAX,rops,fx,ld,fad,lng,zAH,zAR,cls,Nat.zero_add,Option.some.injEq,exists_eq_left',Nat.reduceAdd,tk22,tk24,zBO,zBG,un22,b0,b1,b2,hwL]
  refine Wo.call hc (by rfl) (by rfl) ⟨by rfl,by rfl⟩ (xs := [.agg #[.int .i64 x.m,.slice x.sa x.st.length x.sc,.slice x.ra x.ro.length x.rc],.int .i64 ((0 : Nat) : Int),.int .i64 (L : Int)]) (by rfl) (by rfl) (by rfl) (Con.mono (first_ref hx1.wf o1 o2 o3 o4 hxr.1 (n := 0) (many := L) (by omega) (by omega)) ?_)
  rintro w A2 ⟨a,rfl,hx2,hg⟩
  obtain ⟨b,o,c0,t,f,g,e,rfl,hbl,l0,hro,hcs0⟩ := hg.wrt (by rw [takeL_len]; omega)
  rw [takeL_len] at hcs0
  have hc0 : ∀ j,j < L → c0[o + j]? = some (.int .i64 (x.s j)) := fun j hj => by
    obtain ⟨b',o',e',_,_,h4⟩ := hg.ints j (by rw [takeL_len]; exact hj)
    cases e'
    rw [zCE l0 hro,takeL_get _ _ _ _ hj,Nat.zero_add] at h4
    exact h4
  refine Wo.run hc 1 rfl rfl rfl ?_
  simp (maxSteps := 2000000) only [List.drop_zero,List.drop_succ_cons,List.take_succ_cons,List.take_zero,zAY,zAU,sp_n,Nat.reduceLT,gd,zAX,rops,fx,Option.some.injEq,exists_eq_left',Nat.reduceAdd]
  refine Wo.done hc rfl (hK _ _ ?_)
  clear hK
  (repeat (first | refine Rn.seq hc ?_ | refine Rn.skip hc ?_ | refine Rn.block hc ?_ | refine Rn.inBlock hc ?_ | refine Rn.scope hc ?_ | refine Rn.inScope hc ?_))
  have d2 := (hx2.cl (show A.next < A1.next by omega) 2).trans b2
  have hx02 : Nx A.next A A2 := hx1.trans (hx2.le hx1.next)
  refine Rn.reg hc rfl ?_
  simp only [zAY,zAU,zAT,sp_n,Nat.reduceLT,ne_eq,Nat.reduceEqDiff,zNf,gd,zAX,rops,fx,ld,fad,lng,zAR,Nat.zero_add,zOi,zEl,tk22,zBG,un22,d2]
  (repeat (first | refine Rn.seq hc ?_ | refine Rn.skip hc ?_ | refine Rn.block hc ?_ | refine Rn.inBlock hc ?_ | refine Rn.scope hc ?_ | refine Rn.inScope hc ?_))
  refine Rn.zDY hc (I := fun k s D => ∃ i,∃ c : Array Value,x.ro.length ≤ i ∧ i ≤ L ∧ k = L - i ∧ Nx A1.next A1 D ∧ o + L ≤ c.size ∧ Canon.look D.objs b = some ⟨.cells c t f,g,e⟩ ∧ (∀ j,j < L → c[o + j]? = some (.int .i64 (if j < i then dfE x.m x.s x.ro.length j else x.s j))) ∧ s.n = 41 ∧ sget s 1 = .pointer (some ⟨A.next,0,none⟩) ∧ sget s 3 = .slice (some ⟨b,o,none⟩) L L ∧ sget s 4 = .int .i64 (i : Int))
    (n := L - x.ro.length) ⟨x.ro.length,c0,Nat.le_refl _,by omega,rfl,hx2,hcs0,l0,fun j hj => by
      rw [hc0 j hj]
      by_cases hjr : j < x.ro.length
      · rw [if_pos hjr]
        unfold dfE
        rw [if_pos hjr]
      · rw [if_neg hjr],by simp only [sp_n],by simp only [zAU,zAT,sp_n,Nat.reduceLT,ne_eq,Nat.reduceEqDiff,zNf],by simp only [zAU,zAT,sp_n,Nat.reduceLT,ne_eq,Nat.reduceEqDiff,zNf],by simp only [zAU,sp_n,Nat.reduceLT]⟩ ?_
  clear hg hc0 hcs0 l0 d2
  rintro k s D ⟨i,c,hri,hi,rfl,hD,hcs,lD,hcv,hn,s1,s3,s4⟩ ih
  have nD := hD.next
  have hbD : b < D.next := hD.wf _ _ lD
  have hAD : Nx A.next A D := hx1.trans (hD.le hx1.next)
  (repeat (first | refine Rn.seq hc ?_ | refine Rn.skip hc ?_ | refine Rn.block hc ?_ | refine Rn.inBlock hc ?_ | refine Rn.scope hc ?_ | refine Rn.inScope hc ?_))
  by_cases hlt : i < L
  · have hd : decide ((i : Int) < (L : Int)) = true := decide_eq_true (by omega)
    have hXD := hX.nx hD
    obtain ⟨F,hFb,hF⟩ : ∃ F : AHeap → Prop,(∀ M,F M → ∀ b,b < D.next → ∀ o,cl M b o = cl D b o) ∧ (∀ M,Nx D.next D M → F M) := ⟨fun M => Nx D.next D M,fun M h b hb o => h.cl hb o,fun _ h => h⟩
    have X0 := fun M hM => (hFb M hM _ hXD.lt 0).trans hXD.c0
    have X1 := fun M hM => (hFb M hM _ hXD.lt 1).trans hXD.c1
    have X2 := fun M hM => (hFb M hM _ hXD.lt 2).trans hXD.c2
    have hbk : Nx D.next D (bump D 18) := Nx.bump (Nx.refl hD.wf _) 18
    have FB := hF _ hbk
    have okX := hXD.ok.nx hbk
    have hx1 := xl i
    have hx2 := xl (i - x.ro.length)
    have hws : IntKind.i64.wrap ((i : Int) - (x.ro.length : Int)) = ((i - x.ro.length : Nat) : Int) := by rw [IntWalk.i64_in _ (by omega)]; omega
    have hwd : IntKind.i64.wrap (x.s i - x.s (i - x.ro.length)) = x.s i - x.s (i - x.ro.length) := IntWalk.i64_in _ ⟨by omega,by omega⟩
    have hdf : nrm (x.s i - x.s (i - x.ro.length)) x.m = dfE x.m x.s x.ro.length i := by
      rw [nrm_mod _ (by omega)]
      unfold dfE
      rw [if_neg (by omega)]
    refine Rn.reg hc rfl ?_
    simp only [zAY,zAU,zAT,sp_n,Nat.reduceLT,ne_eq,Nat.reduceEqDiff,zNf,gd,zAX,rops,fx,lng,zAN,zOi,zEl,un22,hn,s3,s4,hd]
    (repeat (first | refine Rn.seq hc ?_ | refine Rn.skip hc ?_ | refine Rn.block hc ?_ | refine Rn.inBlock hc ?_ | refine Rn.scope hc ?_ | refine Rn.inScope hc ?_))
    refine Rn.zAM hc rfl ?_
    simp only [zAY,zAU,sp_n,Nat.reduceLT,Value.bool.injEq,zEl,hn]
    (repeat (first | refine Rn.seq hc ?_ | refine Rn.skip hc ?_ | refine Rn.block hc ?_ | refine Rn.inBlock hc ?_ | refine Rn.scope hc ?_ | refine Rn.inScope hc ?_))
    refine Rn.drawnL hc hx cxS F (E := [4,11,15]) (n := 17) (k := 18) (by kernel_rfl) (by kernel_rfl) (by rfl) (by kernel_rfl) ?_
    refine DrL.read (by first | rfl | kernel_rfl) (by rfl) (by assumption) (fun M hM => by simp only [zAY,zAT,ne_eq,Nat.reduceEqDiff,zNf,fx,s3] <;> rfl) (by rfl) (by first | exact VQ.int _ _ | exact VQ.bool _ | exact VQ.ptr _ _ | exact VQ.slice _ _ _ | exact VQ.func (by simp [zAW,zAV,zAZ]) (by simp [zAW,zAV,zAZ]) | exact VQ.agg (by simp [zAW,zAV,zAZ]) | exact VQ.tuple (by simp [zAW,zAV,zAZ])) ?_
    refine DrL.read (by first | rfl | kernel_rfl) (by rfl) (by assumption) (fun M hM => by simp only [zAY,zAT,ne_eq,Nat.reduceEqDiff,zNf,fx,s4] <;> rfl) (by rfl) (by first | exact VQ.int _ _ | exact VQ.bool _ | exact VQ.ptr _ _ | exact VQ.slice _ _ _ | exact VQ.func (by simp [zAW,zAV,zAZ]) (by simp [zAW,zAV,zAZ]) | exact VQ.agg (by simp [zAW,zAV,zAZ]) | exact VQ.tuple (by simp [zAW,zAV,zAZ])) ?_
    refine DrL.read (by first | rfl | kernel_rfl) (by rfl) (by assumption) (fun M hM => by simp only [zAY,zAT,ne_eq,Nat.reduceEqDiff,zNf,fx,ld,zAR,cls,Nat.zero_add,Nat.reduceAdd,tk24,s1,X0 M hM,X1 M hM,X2 M hM] <;> rfl) (by rfl) (by first | exact VQ.int _ _ | exact VQ.bool _ | exact VQ.ptr _ _ | exact VQ.slice _ _ _ | exact VQ.func (by simp [zAW,zAV,zAZ]) (by simp [zAW,zAV,zAZ]) | exact VQ.agg (by simp [zAW,zAZ]) | exact VQ.tuple (by simp [zAW,zAV,zAZ])) ?_
    refine DrL.read (by first | rfl | kernel_rfl) (by rfl) (by assumption) (fun M hM => by simp only [zAY,zAT,ne_eq,Nat.reduceEqDiff,zNf,fx,s4] <;> rfl) (by rfl) (by first | exact VQ.int _ _ | exact VQ.bool _ | exact VQ.ptr _ _ | exact VQ.slice _ _ _ | exact VQ.func (by simp [zAW,zAV,zAZ]) (by simp [zAW,zAV,zAZ]) | exact VQ.agg (by simp [zAW,zAV,zAZ]) | exact VQ.tuple (by simp [zAW,zAV,zAZ])) ?_
    refine DrL.call (by kernel_rfl) (by rfl) (by assumption) (by rfl) (zAA (by rfl) ⟨by rfl,by rfl⟩ (by rfl) (xs := [x.v,.int .i64 (i : Int)]) (by simp only [zAY,zAU,zAT,sp_n,Nat.reduceLT,ne_eq,Nat.reduceEqDiff,zNf,List.map_cons,List.map_nil,List.nil_append,List.append_nil,hn,Las.v]) (at_cx hbk.wf okX i hxr.1 (by omega))) ?_
    rintro v E1 ⟨hv,k1⟩
    obtain rfl := hv _ _ _ _ _ _ _ _ rfl okX.1 okX.2.1
    rw [show atL x.st x.ro i = x.s i from rfl]
    have hE1 : Nx D.next D E1 := hbk.trans (k1.le hbk.next)
    have F1 := hF _ hE1
    have okX := hXD.ok.nx hE1
    refine DrL.read (by first | rfl | kernel_rfl) (by rfl) (by assumption) (fun M hM => by simp only [zAY,zAT,ne_eq,Nat.reduceEqDiff,zNf,fx,ld,zAR,cls,Nat.zero_add,Nat.reduceAdd,tk24,s1,X0 M hM,X1 M hM,X2 M hM] <;> rfl) (by rfl) (by first | exact VQ.int _ _ | exact VQ.bool _ | exact VQ.ptr _ _ | exact VQ.slice _ _ _ | exact VQ.func (by simp [zAW,zAV,zAZ]) (by simp [zAW,zAV,zAZ]) | exact VQ.agg (by simp [zAW,zAZ]) | exact VQ.tuple (by simp [zAW,zAV,zAZ])) ?_
    refine DrL.read (by first | rfl | kernel_rfl) (by rfl) (by assumption) (fun M hM => by simp only [zAY,zAT,ne_eq,Nat.reduceEqDiff,zNf,fx,s4] <;> rfl) (by rfl) (by first | exact VQ.int _ _ | exact VQ.bool _ | exact VQ.ptr _ _ | exact VQ.slice _ _ _ | exact VQ.func (by simp [zAW,zAV,zAZ]) (by simp [zAW,zAV,zAZ]) | exact VQ.agg (by simp [zAW,zAV,zAZ]) | exact VQ.tuple (by simp [zAW,zAV,zAZ])) ?_
    refine DrL.read (by first | rfl | kernel_rfl) (by rfl) (by assumption) (fun M hM => by simp only [zAY,zAT,ne_eq,Nat.reduceEqDiff,zNf,fx,fad,zAR,Nat.zero_add,zBG,s1] <;> rfl) (by rfl) (by first | exact VQ.int _ _ | exact VQ.bool _ | exact VQ.ptr _ _ | exact VQ.slice _ _ _ | exact VQ.func (by simp [zAW,zAV,zAZ]) (by simp [zAW,zAV,zAZ]) | exact VQ.agg (by simp [zAW,zAV,zAZ]) | exact VQ.tuple (by simp [zAW,zAV,zAZ])) ?_
    refine DrL.read (by first | rfl | kernel_rfl) (by rfl) (by assumption) (fun M hM => by simp only [zAY,zAU,sp_n,Nat.reduceLT,fx,ld,zAR,tk22,hn,X2 M hM] <;> rfl) (by rfl) (by first | exact VQ.int _ _ | exact VQ.bool _ | exact VQ.ptr _ _ | exact VQ.slice _ _ _ | exact VQ.func (by simp [zAW,zAV,zAZ]) (by simp [zAW,zAV,zAZ]) | exact VQ.agg (by simp [zAW,zAV,zAZ]) | exact VQ.tuple (by simp [zAW,zAV,zAZ])) ?_
    refine DrL.read (by first | rfl | kernel_rfl) (by rfl) (by assumption) (fun M hM => by simp only [zAY,zAU,sp_n,Nat.reduceLT,fx,lng,un22,hn] <;> rfl) (by rfl) (by first | exact VQ.int _ _ | exact VQ.bool _ | exact VQ.ptr _ _ | exact VQ.slice _ _ _ | exact VQ.func (by simp [zAW,zAV,zAZ]) (by simp [zAW,zAV,zAZ]) | exact VQ.agg (by simp [zAW,zAV,zAZ]) | exact VQ.tuple (by simp [zAW,zAV,zAZ])) ?_
    refine DrL.read (by first | rfl | kernel_rfl) (by rfl) (by assumption) (fun M hM => by simp only [zAY,zAU,zAT,sp_n,Nat.reduceLT,ne_eq,Nat.reduceEqDiff,zNf,fx,zBR,hn,hws] <;> rfl) (by rfl) (by first | exact VQ.int _ _ | exact VQ.bool _ | exact VQ.ptr _ _ | exact VQ.slice _ _ _ | exact VQ.func (by simp [zAW,zAV,zAZ]) (by simp [zAW,zAV,zAZ]) | exact VQ.agg (by simp [zAW,zAV,zAZ]) | exact VQ.tuple (by simp [zAW,zAV,zAZ])) ?_
    refine DrL.call (by kernel_rfl) (by rfl) (by assumption) (by rfl) (zAA (by rfl) ⟨by rfl,by rfl⟩ (by rfl) (xs := [x.v,.int .i64 ((i - x.ro.length : Nat) : Int)]) (by simp only [zAY,zAU,zAT,sp_n,Nat.reduceLT,ne_eq,Nat.reduceEqDiff,zNf,List.map_cons,List.map_nil,List.nil_append,List.append_nil,hn,Las.v]) (at_cx hE1.wf okX (i - x.ro.length) hxr.1 (by omega))) ?_
    rintro v E2 ⟨hv,k2⟩
    obtain rfl := hv _ _ _ _ _ _ _ _ rfl okX.1 okX.2.1
    rw [show atL x.st x.ro (i - x.ro.length) = x.s (i - x.ro.length) from rfl]
    have hE2 : Nx D.next D E2 := hE1.trans (k2.le hE1.next)
    have F2 := hF _ hE2
    refine DrL.read (by first | rfl | kernel_rfl) (by rfl) (by assumption) (fun M hM => by simp only [zAY,zAU,zAT,sp_n,Nat.reduceLT,ne_eq,Nat.reduceEqDiff,zNf,fx,zBR,hn,hwd] <;> rfl) (by rfl) (by first | exact VQ.int _ _ | exact VQ.bool _ | exact VQ.ptr _ _ | exact VQ.slice _ _ _ | exact VQ.func (by simp [zAW,zAV,zAZ]) (by simp [zAW,zAV,zAZ]) | exact VQ.agg (by simp [zAW,zAV,zAZ]) | exact VQ.tuple (by simp [zAW,zAV,zAZ])) ?_
    refine DrL.read (by first | rfl | kernel_rfl) (by rfl) (by assumption) (fun M hM => by simp only [zAY,zAT,ne_eq,Nat.reduceEqDiff,zNf,fx,fad,zAR,Nat.add_zero,zBJ,s1] <;> rfl) (by rfl) (by first | exact VQ.int _ _ | exact VQ.bool _ | exact VQ.ptr _ _ | exact VQ.slice _ _ _ | exact VQ.func (by simp [zAW,zAV,zAZ]) (by simp [zAW,zAV,zAZ]) | exact VQ.agg (by simp [zAW,zAV,zAZ]) | exact VQ.tuple (by simp [zAW,zAV,zAZ])) ?_
    refine DrL.read (by first | rfl | kernel_rfl) (by rfl) (by assumption) (fun M hM => by simp only [zAY,zAU,sp_n,Nat.reduceLT,fx,ld,zAR,tk3,hn,X0 M hM] <;> rfl) (by rfl) (by first | exact VQ.int _ _ | exact VQ.bool _ | exact VQ.ptr _ _ | exact VQ.slice _ _ _ | exact VQ.func (by simp [zAW,zAV,zAZ]) (by simp [zAW,zAV,zAZ]) | exact VQ.agg (by simp [zAW,zAV,zAZ]) | exact VQ.tuple (by simp [zAW,zAV,zAZ])) ?_
    refine DrL.call (by kernel_rfl) (by rfl) (by assumption) (by rfl) (zAA (by rfl) ⟨by rfl,by rfl⟩ (by rfl) (xs := [.int .i64 (x.s i - x.s (i - x.ro.length)),.int .i64 x.m]) (by simp only [zAY,zAU,zAT,sp_n,Nat.reduceLT,ne_eq,Nat.reduceEqDiff,zNf,List.map_cons,List.map_nil,List.nil_append,List.append_nil,hn]) (residue_cx hE2.wf (by omega))) ?_
    rintro v E3 ⟨hv,k3⟩
    obtain rfl := hv _ _ rfl
    rw [hdf]
    have hE3 : Nx D.next D E3 := hE2.trans (k3.le hE2.next)
    have F3 := hF _ hE3
    refine DrL.read (by first | rfl | kernel_rfl) (by rfl) (by assumption) (fun M hM => by simp only [zAY,zAU,zAT,sp_n,Nat.reduceLT,ne_eq,Nat.reduceEqDiff,zNf,fx,idx,Nat.mul_one,eo22,hn,zAQ hlt] <;> rfl) (by rfl) (by first | exact VQ.int _ _ | exact VQ.bool _ | exact VQ.ptr _ _ | exact VQ.slice _ _ _ | exact VQ.func (by simp [zAW,zAV,zAZ]) (by simp [zAW,zAV,zAZ]) | exact VQ.agg (by simp [zAW,zAV,zAZ]) | exact VQ.tuple (by simp [zAW,zAV,zAZ])) ?_
    have lE3 : Canon.look E3.objs b = _ := (hE3.keep _ hbD).trans lD
    obtain ⟨D3,v1,v2⟩ := st1_upd (o := o + i) (v := .int .i64 (dfE x.m x.s x.ro.length i)) lE3 hro (by omega) rfl
    refine DrL.eff (by rfl) (by rfl) (pd1 := []) (pd2 := []) (by kernel_rfl) (by kernel_rfl) (ms0 := []) (A0 := E3) rfl (fun _ h => by cases h) F3 (by rfl) (v := undef) (A1 := D3) (zBQ rfl (fx_ok (by rfl) (by simp only [zAY,zAU,zAT,sp_n,Nat.reduceLT,ne_eq,Nat.reduceEqDiff,zNf,fx,str,zAR,tk3,hn,v1]))) ?_
    refine DrL.nil ⟨by rfl,D3,by rfl,?_⟩
    obtain ⟨c',t',f',g',e',t1,t2,_⟩ := v2.at'
    rw [lE3] at t1
    cases t1
    (repeat (first | refine Rn.seq hc ?_ | refine Rn.skip hc ?_ | refine Rn.block hc ?_ | refine Rn.inBlock hc ?_ | refine Rn.scope hc ?_ | refine Rn.inScope hc ?_))
    refine Rn.reg hc rfl ?_
    simp only [zAY,zAS,zAU,zAT,sp_n,zAK,Nat.reduceLT,ne_eq,Nat.reduceEqDiff,zNf,gd,zAX,rops,fx,zAH,zOi,zEl,hn,s4,zBZ (show i < 9223372036854775807 by omega)]
    (repeat (first | refine Rn.seq hc ?_ | refine Rn.skip hc ?_ | refine Rn.block hc ?_ | refine Rn.inBlock hc ?_ | refine Rn.scope hc ?_ | refine Rn.inScope hc ?_))
    refine ih _ _ _ (by omega) ⟨i + 1,_,by omega,by omega,rfl,(hD.trans (hE3.le nD)).trans (v2.nx hE3.wf hbl.1),by rw [Array.size_setIfInBounds]; exact hcs,t2,fun j hj => ?_,by simp only [sp_n,hn],by simp only [zAT,ne_eq,Nat.reduceEqDiff,zNf,s1],by simp only [zAT,ne_eq,Nat.reduceEqDiff,zNf,s3],by simp only [zAU,sp_n,Nat.reduceLT,hn]⟩
    rw [Array.getElem?_setIfInBounds]
    by_cases hji : j = i
    · subst hji
      rw [if_pos rfl,if_pos (by omega),if_pos (by omega)]
    · rw [if_neg (by omega),hcv j hj]
      by_cases h1 : j < i
      · rw [if_pos h1,if_pos (by omega)]
      · rw [if_neg h1,if_neg (by omega)]
  · have hd : decide ((i : Int) < (L : Int)) = false := decide_eq_false (by omega)
    have hil : i = L := by omega
    subst hil
    clear ih
    refine Rn.reg hc rfl ?_
    simp only [zAY,zAU,zAT,sp_n,Nat.reduceLT,ne_eq,Nat.reduceEqDiff,zNf,gd,zAX,rops,fx,lng,zAN,zOi,zEl,un22,hn,s3,s4,hd]
    (repeat (first | refine Rn.seq hc ?_ | refine Rn.skip hc ?_ | refine Rn.block hc ?_ | refine Rn.inBlock hc ?_ | refine Rn.scope hc ?_ | refine Rn.inScope hc ?_))
    refine Rn.zAM hc rfl ?_
    simp only [zAY,zAU,sp_n,Nat.reduceLT,Value.bool.injEq,zEl,hn]
    (repeat (first | refine Rn.seq hc ?_ | refine Rn.skip hc ?_ | refine Rn.block hc ?_ | refine Rn.inBlock hc ?_ | refine Rn.scope hc ?_ | refine Rn.inScope hc ?_))
    refine Rn.exit hc rfl ?_
    (repeat (first | refine Rn.seq hc ?_ | refine Rn.skip hc ?_ | refine Rn.block hc ?_ | refine Rn.inBlock hc ?_ | refine Rn.scope hc ?_ | refine Rn.inScope hc ?_))
    refine Rn.reg hc rfl ?_
    simp only [zAY,zAU,zAT,sp_n,Nat.reduceLT,ne_eq,Nat.reduceEqDiff,zNf,gd,zAX,rops,fx,zOi,zEl,hn,s3]
    (repeat (first | refine Rn.seq hc ?_ | refine Rn.skip hc ?_ | refine Rn.block hc ?_ | refine Rn.inBlock hc ?_ | refine Rn.scope hc ?_ | refine Rn.inScope hc ?_))
    refine Rn.ret (zAO rfl ⟨some ⟨b,o,none⟩,?_,hAD,fun j hj => ?_⟩)
    · simp only [zAU,sp_n,Nat.reduceLT,hn]
    · have hj' := hj
      rw [zAL] at hj'
      exact ⟨b,o,rfl,by have := hx1.next; omega,hbD,by rw [zCE lD hro,hcv j hj',if_pos hj',zCD hj']⟩
end Go.Proofs.Ytdaljohmfnfgiaa
namespace Go.Proofs.Ytdaljohmfnfgiaa
open Go Go.RowKit Go.Proofs.Ytdaljohmfnfgiaa.Canon
set_option maxRecDepth 20000
theorem scn_long {m : Nat} {a : Nat → Int} {step : Nat} (hm : 0 < m) (hs : 0 < step) (hl : ∀ n,0 ≤ a n ∧ a n < (m : Int)) (h : ∀ b p,Red a b p → 120 < p) : ∀ b p,Red (scn (m : Int) a step) b p → 120 < p := fun b p hr => by
  have h1 : Per a (b + step) p := ⟨hr.per.pos,fun n hn => by
    obtain ⟨q,rfl⟩ : ∃ q,n = q + step := ⟨n - step,by omega⟩
    rw [show q + step + p = q + p + step by omega,← scn_back hs hl,← scn_back hs hl,show q + p + step = q + step + p by omega,hr.per.per (q + step) (by omega),hr.per.per q (by omega)]⟩
  obtain ⟨a',p',hr',_,hp'⟩ := red_of_per h1
  have := h _ _ hr'
  omega
theorem cr_two {A G : AHeap} (hA : Nx A.next A G) {bR b8 b16 : Nat} {m : Nat} {one y : Las} {E : Nat → Int} (lR : Canon.look G.objs bR = some ⟨.cells #[.int .i64 0,.slice none 0 0,.slice none 0 0] 24,false,0⟩) (hR : A.next ≤ bR) (hRG : bR < G.next) (h8 : Hs G b8 y) (h16 : Hs G b16 one) (hm : 2 ≤ m ∧ m ≤ 65521) (hom : one.m = (m : Int)) (hlim : ∀ n,0 ≤ one.s n ∧ one.s n < (m : Int))
    (h6 : one.st.length ≤ 1000) (h12 : 1 ≤ one.ro.length ∧ one.ro.length ≤ 20000) (hRed : Red one.s one.st.length one.ro.length) (hy : 1 ≤ y.ro.length ∧ y.ro.length ≤ 120) (hE : scn (m : Int) one.s y.ro.length = E)
    {s : Slots} (hn : s.n = 105) (s4 : sget s 4 = .pointer (some ⟨bR,0,none⟩)) (s8 : sget s 8 = .pointer (some ⟨b8,0,none⟩)) (s16 : sget s 16 = .pointer (some ⟨b16,0,none⟩)) :
    Rn Try.prog 50 none [.code (restN 8 (Try.f50.body.getD .skip))] s [] G (endQ Try.prog Try.f50 (TldR A 0 m E)) := by
  have nG := hA.next
  have c0 := h16.c0
  have c1 := h16.c1
  have c2 := h16.c2
  have d2 := h8.c2
  have hsc := scanned_ref hA.wf h16.ok hom hm hlim h6 h12 hRed hy
  unfold ScnQ at hsc
  rw [hom,hE] at hsc
  refine Rn.seq hc ?_
  refine Rn.region hc fun K hK => ?_
  refine Wo.run hc 4 rfl rfl rfl ?_
  simp (maxSteps := 2000000) only [List.drop_zero,List.take_succ_cons,List.take_zero,zAY,zAU,zAT,sp_n,Nat.reduceLT,ne_eq,Nat.reduceEqDiff,not_false_eq_true,gd,zAX,rops,fx,ld,fad,lng,zAR,cls,Nat.zero_add,Option.some.injEq,exists_eq_left',Nat.reduceAdd,tk22,tk24,zBG,un22,hn,s8,s16,c0,c1,c2,d2]
  refine Wo.call hc (by rfl) (by rfl) ⟨by rfl,by rfl⟩ (xs := [one.v,.int .i64 (y.ro.length : Int)]) (by rfl) (by rfl) (by simp only [zAY,zAU,zAT,sp_n,Nat.reduceLT,ne_eq,Nat.reduceEqDiff,zNf,List.map_cons,List.map_nil,List.nil_append,List.append_nil,hn]; rfl) (Con.mono hsc ?_)
  rintro w A6 ⟨hx6,hq⟩
  have hx06 : Nx A.next A A6 := hA.trans (hx6.le nG)
  have n6 := hx6.next
  have l6 : Canon.look A6.objs bR = _ := (hx6.keep _ hRG).trans lR
  rcases hq with ⟨rfl,⟨N,d,hper⟩,hlg⟩ | ⟨a',p',za,zc,zr,hred',ha',hp4,rfl,hac',j1,j2,z1,z2⟩
  · obtain ⟨A7,p7,hx7,hn7,d0,d1,d2⟩ := put24 hx6.wf (v0 := .int .i64 0) (v1 := .slice none 0 0) (v2 := .slice none 0 0) rfl
    refine Wo.run hc 6 rfl rfl rfl ?_
    simp (maxSteps := 2000000) only [List.drop_zero,List.drop_succ_cons,List.take_succ_cons,List.take_zero,zAY,zAU,zAT,sp_n,zAK,Nat.reduceLT,ne_eq,Nat.reduceEqDiff,not_false_eq_true,gd,zAX,rops,fx,str,ext,zAR,List.getElem?_toArray,List.getElem?_cons_zero,List.getElem?_cons_succ,Nat.zero_add,Option.some.injEq,exists_eq_left',Value.cells,Nat.reduceAdd,tk24,hn,ext,ze24,p7,List.size_toArray,List.length_cons,List.length_nil,Nat.beq_refl]
    refine Wo.done hc rfl (hK _ _ ?_)
    clear hK
    (repeat (first | refine Rn.seq hc ?_ | refine Rn.skip hc ?_ | refine Rn.block hc ?_ | refine Rn.inBlock hc ?_ | refine Rn.scope hc ?_ | refine Rn.inScope hc ?_))
    have hx07 : Nx A.next A A7 := hx06.trans (hx7.le hx06.next)
    obtain ⟨D,q1,g0,g1,g2,hxD⟩ := err_fin hx07 hR (by omega) ((hx7.keep _ (by omega)).trans l6)
    refine Rn.reg hc rfl ?_
    simp only [zAY,zAU,sp_n,Nat.reduceLT,gd,zAX,rops,fx,zOi,zEl,Bool.not_false,ae_not',Bool.not_false,hn]
    (repeat (first | refine Rn.seq hc ?_ | refine Rn.skip hc ?_ | refine Rn.block hc ?_ | refine Rn.inBlock hc ?_ | refine Rn.scope hc ?_ | refine Rn.inScope hc ?_))
    refine Rn.zAM hc rfl ?_
    simp only [zAY,zAU,sp_n,Nat.reduceLT,Value.bool.injEq,zEl,hn]
    (repeat (first | refine Rn.seq hc ?_ | refine Rn.skip hc ?_ | refine Rn.block hc ?_ | refine Rn.inBlock hc ?_ | refine Rn.scope hc ?_ | refine Rn.inScope hc ?_))
    refine Rn.reg hc rfl ?_
    simp only [zAY,zAS,zAU,zAT,sp_n,zAK,Nat.reduceLT,ne_eq,Nat.reduceEqDiff,zNf,gd,zAX,rops,fx,str,zAR,Nat.zero_add,zOi,zEl,Nat.reduceAdd,tk24,hn,s4,bd24_z,q1,List.size_toArray,List.length_cons,List.length_nil,Nat.beq_refl]
    (repeat (first | refine Rn.seq hc ?_ | refine Rn.skip hc ?_ | refine Rn.block hc ?_ | refine Rn.inBlock hc ?_ | refine Rn.scope hc ?_ | refine Rn.inScope hc ?_))
    refine Rn.ret (zCT rfl (v := .agg #[.int .i64 0,.slice none 0 0,.slice none 0 0]) ?_ ?_)
    · simp only [zAT,ne_eq,Nat.reduceEqDiff,zNf,ld,zAR,cls,Nat.zero_add,Nat.reduceAdd,tk24,s4,g0,g1,g2]
    · simp only [zAU,sp_n,Nat.reduceLT,hn]
      exact tldR_tp (tp_long hper hlg) hxD
  · obtain ⟨A7,p7,hx7,hn7,d0,d1,d2⟩ := put24 hx6.wf (v0 := .int .i64 (m : Int)) (v1 := .slice za a' zc) (v2 := .slice zr p' p') rfl
    refine Wo.run hc 6 rfl rfl rfl ?_
    simp (maxSteps := 2000000) only [List.drop_zero,List.drop_succ_cons,List.take_succ_cons,List.take_zero,zAY,zAU,zAT,sp_n,zAK,Nat.reduceLT,ne_eq,Nat.reduceEqDiff,not_false_eq_true,gd,zAX,rops,fx,str,ext,zAR,List.getElem?_toArray,List.getElem?_cons_zero,List.getElem?_cons_succ,Nat.zero_add,Option.some.injEq,exists_eq_left',Value.cells,Nat.reduceAdd,tk24,hn,ext,ze24,p7,List.size_toArray,List.length_cons,List.length_nil,Nat.beq_refl]
    refine Wo.done hc rfl (hK _ _ ?_)
    clear hK
    (repeat (first | refine Rn.seq hc ?_ | refine Rn.skip hc ?_ | refine Rn.block hc ?_ | refine Rn.inBlock hc ?_ | refine Rn.scope hc ?_ | refine Rn.inScope hc ?_))
    have hx07 : Nx A.next A A7 := hx06.trans (hx7.le hx06.next)
    refine Rn.reg hc rfl ?_
    simp only [zAY,zAU,sp_n,Nat.reduceLT,gd,zAX,rops,fx,zOi,zEl,Bool.not_true,ae_not',Bool.not_true,hn]
    (repeat (first | refine Rn.seq hc ?_ | refine Rn.skip hc ?_ | refine Rn.block hc ?_ | refine Rn.inBlock hc ?_ | refine Rn.scope hc ?_ | refine Rn.inScope hc ?_))
    refine Rn.zAM hc rfl ?_
    simp only [zAY,zAU,sp_n,Nat.reduceLT,Value.bool.injEq,zEl,hn]
    (repeat (first | refine Rn.seq hc ?_ | refine Rn.skip hc ?_ | refine Rn.block hc ?_ | refine Rn.inBlock hc ?_ | refine Rn.scope hc ?_ | refine Rn.inScope hc ?_))
    have hatl' : atL (redS E a') (redR E a' p') = E := zCC hred'.per
    have hlr := result_ref hx7.wf (m := (m : Int)) (sc := zc) (rc := p') ((j1.nx hx7 (Nat.le_refl _)).mono (Nat.zero_le _) hx7.next) ((j2.nx hx7 (Nat.le_refl _)).mono (Nat.zero_le _) hx7.next) (by rw [zAL]; omega) (by rw [zAG]; omega) (by rw [zAG]; exact hred'.per.pos) ((z2.nx hx6.wf hx7).mono (Nat.zero_le _)) (by rw [zAG]; exact Nat.le_refl _)
    rw [hatl'] at hlr
    simp only [zAL,zAG] at hlr
    refine Rn.region hc fun K hK => ?_
    refine Wo.run hc 1 rfl rfl rfl ?_
    simp (maxSteps := 2000000) only [List.drop_zero,List.take_succ_cons,List.take_zero,zAY,zAU,zAT,sp_n,Nat.reduceLT,ne_eq,Nat.reduceEqDiff,not_false_eq_true,gd,zAX,rops,fx,ld,zAR,cls,Nat.zero_add,Option.some.injEq,exists_eq_left',Nat.reduceAdd,tk24,hn,d0,d1,d2]
    refine Wo.call hc (by rfl) (by rfl) ⟨by rfl,by rfl⟩ (xs := [.agg #[.int .i64 (m : Int),.slice za a' zc,.slice zr p' p']]) (by rfl) (by rfl) (by simp only [zAY,zAU,sp_n,Nat.reduceLT,List.map_cons,List.map_nil,List.nil_append,List.append_nil,hn]) (Con.mono (hlr) ?_)
    rintro w C3 ⟨a'',p'',hred'',_,_,hq⟩
    obtain ⟨mm,n1,n2,ee,p1,c1,p2,c2,rfl,D',q1,g0,g1,g2,hoff,hT⟩ := TldR.fin (b := bR) hx07 hR (by omega) ((hx7.keep _ (by omega)).trans l6) (tldR_q (m := (m : Int)) hred'' hq)
    refine Wo.run hc 4 rfl rfl rfl ?_
    simp (maxSteps := 2000000) only [List.drop_zero,List.drop_succ_cons,List.take_succ_cons,List.take_zero,zAY,zAU,zAT,sp_n,zAK,Nat.reduceLT,ne_eq,Nat.reduceEqDiff,not_false_eq_true,gd,zAX,rops,fx,str,ext,zAR,List.getElem?_toArray,List.getElem?_cons_zero,List.getElem?_cons_succ,Nat.zero_add,Option.some.injEq,exists_eq_left',Nat.reduceAdd,tk24,hn,s4,ext,q1,List.size_toArray,List.length_cons,List.length_nil,Nat.beq_refl]
    refine Wo.done hc rfl (hK _ _ ?_)
    clear hK
    (repeat (first | refine Rn.seq hc ?_ | refine Rn.skip hc ?_ | refine Rn.block hc ?_ | refine Rn.inBlock hc ?_ | refine Rn.scope hc ?_ | refine Rn.inScope hc ?_))
    refine Rn.ret (zCT rfl (v := .agg #[.int .i64 mm,.slice p1 n1 c1,.slice p2 n2 c2]) ?_ ?_)
    · simp only [zAT,ne_eq,Nat.reduceEqDiff,zNf,ld,zAR,cls,Nat.zero_add,Nat.reduceAdd,tk24,s4,g0,g1,g2]
    · simp only [zAU,sp_n,Nat.reduceLT,hn]
      exact hT
section
variable {d : Option Tmp} {ty : TypeId} {pos : String} {af : Array Edge} {gu : Option (Nat × Bool)}
theorem fb22_1c {s : Slots} {k : Int} : fobj Try.prog (zBP s) ⟨d,.buildSlice 22 1 #[(0,.const (.int .i64 k))],ty,pos,af,gu⟩ = some ⟨[.int .i64 k],3,.sl 1 1⟩ := by
  have := fbld_fill (ρ := zBP s) (pl := fun k => some (k * 1,1)) (n := 1) (ps := [(0,.const (.int .i64 k))]) (cs := [.int .i64 0]) (r := [.int .i64 k]) rfl (by simp [fbld,zAS,Value.cells])
  have hok : ([((0 : Nat),(Operand.const (.int .i64 k)))].all fun p => zAC p.2) = true := rfl
  simp only [fobj,so22_1,et22,hok,this]
end
theorem vq_lb {m : Int} {sa ra : Option Addr} {n c n' c' : Nat} {b : Bool} : VQ (.tuple #[.agg #[.int .i64 m,.slice sa n c,.slice ra n' c'],.bool b]) := VQ.tuple (fun v hv => by
  simp only [List.mem_cons,List.not_mem_nil,or_false] at hv
  rcases hv with rfl | rfl
  · show veqs (veq 3) [_,_,_] [_,_,_] = true
    refine veqs_self fun v hv => ?_
    simp only [List.mem_cons,List.not_mem_nil,or_false] at hv
    rcases hv with rfl | rfl | rfl
    · exact zAW _ _ _
    · exact zAZ _ _ _ _
    · exact zAZ _ _ _ _
  · cases b <;> rfl)
def cvRS (m : Int) (f : Nat → Int) (R : Nat) : Canon.Spec := fun h _ A v A1 => match h with
  | 83 => SmlQ m f A v A1
  | _ => ∃ x : Las,x.m = m ∧ x.s = f ∧ x.st.length ≤ 1000 ∧ ScnQ x R A v A1
theorem cr_one {A G : AHeap} (hA : Nx A.next A G) {bR b2 b7 b8 bS N : Nat} {m : Nat} {x y : Las} {f : Nat → Int} (lR : Canon.look G.objs bR = some ⟨.cells #[.int .i64 0,.slice none 0 0,.slice none 0 0] 24,false,0⟩) (hR : A.next ≤ bR) (hRG : bR < G.next) (h2 : cl G b2 0 = some (.int .i64 (m : Int))) (l2 : b2 < G.next) (h7 : Hs G b7 x) (h8 : Hs G b8 y) {c : Array Value} (lS : Canon.look G.objs bS = some ⟨.cells c 3,false,0⟩) (hcv : ∀ j,j < N → c[j]? = some (.int .i64 (f j)))
    (hP : Per f N 1) (hf0 : f N = 0) (hm : 2 ≤ m ∧ m ≤ 65521) (hN : N ≤ 1000) (hN0 : 0 < N) (hlim : ∀ n,0 ≤ f n ∧ f n < (m : Int)) (hxr : 1 ≤ x.ro.length ∧ x.ro.length ≤ 120) (hy : 1 ≤ y.ro.length ∧ y.ro.length ≤ 120)
    {s : Slots} (hn : s.n = 105) (s2 : sget s 2 = .pointer (some ⟨b2,0,none⟩)) (s4 : sget s 4 = .pointer (some ⟨bR,0,none⟩)) (s7 : sget s 7 = .pointer (some ⟨b7,0,none⟩)) (s8 : sget s 8 = .pointer (some ⟨b8,0,none⟩)) (s11 : sget s 11 = .slice (some ⟨bS,0,none⟩) N N) :
    Rn Try.prog 50 none [.code (restN 6 (Try.f50.body.getD .skip))] s [] G (endQ Try.prog Try.f50 (TldR A 0 m (scn m (scn m f x.ro.length) y.ro.length))) := by
  have nG := hA.next
  have hwG := hA.wf
  have hbS : bS < G.next := hwG _ _ lS
  obtain ⟨F,hF2,hF7,hF⟩ : ∃ F : AHeap → Prop,(∀ M,F M → cl M b2 0 = some (.int .i64 (m : Int))) ∧ (∀ M,F M → cl M b7 2 = some (.slice x.ra x.ro.length x.rc)) ∧ (∀ M,(∀ b,b < G.next → Canon.look M.objs b = Canon.look G.objs b) → F M) :=
    ⟨fun M => ∀ b,b < G.next → Canon.look M.objs b = Canon.look G.objs b,fun M h => (zBW (h _ l2)).trans h2,fun M h => (zBW (h _ h7.lt)).trans h7.c2,fun M h => h⟩
  have hbk : Nx G.next G (bump G 16) := Nx.bump (Nx.refl hwG _) 16
  have FB : F (bump G 16) := hF _ fun b _ => rfl
  refine Rn.seq hc ?_
  refine Rn.drawnF hc hx (cvRS (m : Int) f x.ro.length) F (n := 5) (k := 16) (by kernel_rfl) (by kernel_rfl) (by rfl) ?_
  refine Dr.read (by first | rfl | kernel_rfl) (by rfl) (by assumption) (fun M hM => by simp only [zAY,fx,fad,zAR,Nat.add_zero,zBJ,s2] <;> rfl) (by rfl) (by first | exact VQ.int _ _ | exact VQ.bool _ | exact VQ.ptr _ _ | exact VQ.slice _ _ _ | exact VQ.func (by simp [zAW,zAV,zAZ]) (by simp [zAW,zAV,zAZ]) | exact VQ.agg (by simp [zAW,zAV,zAZ]) | exact VQ.tuple (by simp [zAW,zAV,zAZ])) ?_
  refine Dr.read (by first | rfl | kernel_rfl) (by rfl) (by assumption) (fun M hM => by simp only [zAY,zAU,Nat.reduceLT,fx,ld,zAR,tk3,hn,hF2 M hM] <;> rfl) (by rfl) (by first | exact VQ.int _ _ | exact VQ.bool _ | exact VQ.ptr _ _ | exact VQ.slice _ _ _ | exact VQ.func (by simp [zAW,zAV,zAZ]) (by simp [zAW,zAV,zAZ]) | exact VQ.agg (by simp [zAW,zAV,zAZ]) | exact VQ.tuple (by simp [zAW,zAV,zAZ])) ?_
  refine Dr.read (by first | rfl | kernel_rfl) (by rfl) (by assumption) (fun M hM => by simp only [zAY,zAT,ne_eq,Nat.reduceEqDiff,zNf,fx,s11] <;> rfl) (by rfl) (by first | exact VQ.int _ _ | exact VQ.bool _ | exact VQ.ptr _ _ | exact VQ.slice _ _ _ | exact VQ.func (by simp [zAW,zAV,zAZ]) (by simp [zAW,zAV,zAZ]) | exact VQ.agg (by simp [zAW,zAV,zAZ]) | exact VQ.tuple (by simp [zAW,zAV,zAZ])) ?_
  refine Dr.float (by rfl) (by rfl) (by rfl) fb22_1c ?_
  refine Dr.read (by first | rfl | kernel_rfl) (by rfl) (by assumption) (fun M hM => by simp only [zAY,zAU,zAT,sp_n,Nat.reduceLT,ne_eq,Nat.reduceEqDiff,zNf,fx,Nat.zero_add,Nat.reduceAdd,hn,bd24,zBY,FK.val] <;> rfl) (by rfl) (by first | exact VQ.int _ _ | exact VQ.bool _ | exact VQ.ptr _ _ | exact VQ.slice _ _ _ | exact VQ.func (by simp [zAW,zAV,zAZ]) (by simp [zAW,zAV,zAZ]) | exact VQ.agg (by simp [zAW,zAZ]) | exact VQ.tuple (by simp [zAW,zAV,zAZ])) ?_
  obtain ⟨M3,p3,hxM3,eM3,lM3,kM3⟩ := place_row (N := G.next) hbk (b := G.next + 3) (by omega) (by rw [zAD]; omega) (hwG.none (by omega)) [.int .i64 0] 3 1 1
  rw [zAD] at eM3
  have kM3' : ∀ b,b < G.next → Canon.look M3.objs b = Canon.look G.objs b := fun b hb => (kM3 _ (by omega)).trans rfl
  have lS3 : Canon.look M3.objs bS = _ := (kM3' _ hbS).trans lS
  have hsm := small_ref hxM3.wf (m := (m : Int)) (sa := some ⟨bS,0,none⟩) (ra := some ⟨G.next + 3,0,none⟩) (sc := N) (rc := 1) (st := redS f N) (ro := redR f N 1)
    (fun q hq => ⟨bS,0,rfl,Nat.zero_le _,by omega,by rw [zAL] at hq; rw [zCE lS3 rfl,Nat.zero_add,hcv q hq,zCD hq]⟩)
    (fun q hq => ⟨G.next + 3,0,rfl,Nat.zero_le _,by omega,by
      have hq' := hq
      rw [zAG] at hq'
      have : q = 0 := by omega
      subst this
      rw [zCE lM3 rfl,redR_get hq',Nat.add_zero N,hf0]
      rfl⟩)
    (by rw [zAL]; omega) (by rw [zAG]; omega) (by rw [zAG]; omega) (fun y hy => by cases hy; exact ⟨rfl,Nat.zero_le _,_,lM3,.inl rfl⟩) (by rw [zAG]; exact Nat.le_refl _)
  rw [zCC hP] at hsm
  simp only [zAL,zAG] at hsm
  refine Dr.callF (by kernel_rfl) (by rfl) (pd1 := [(3,⟨[.int .i64 0],3,.sl 1 1⟩)]) (pd2 := []) (by kernel_rfl) (by kernel_rfl) (ms0 := [bump G 16]) (A0 := M3) (by simp only [zBU,p3]) (fun M hM => by rw [List.mem_singleton] at hM; rw [hM]; exact FB) (hF _ kM3') (by rfl)
    (zAA (by rfl) ⟨by rfl,by rfl⟩ (by rfl) (xs := [.agg #[.int .i64 (m : Int),.slice (some ⟨bS,0,none⟩) N N,.slice (some ⟨G.next + 3,0,none⟩) 1 1]]) (by simp only [zAY,zAU,sp_n,Nat.reduceLT,List.map_cons,List.map_nil,List.nil_append,List.append_nil,hn,FK.val]) (Con.mono hsm fun v A1 h => (by obtain ⟨a',p',h1,_,_,h2⟩ := h; exact (⟨a',p',h1,h2⟩ : cvRS (m : Int) f x.ro.length 83 _ M3 v A1)))) ?_
  intro w C1 hT1
  obtain ⟨a,p,hred,hxc,xa,xc,xr,rfl,hac,i1,i2,y1,y2⟩ := (hT1 : SmlQ (m : Int) f M3 w C1)
  have hp1 := hred.minP _ _ hP
  have ha1 := hred.low hP
  have hp0 := hred.per.pos
  have hC1 : Nx G.next G C1 := hxM3.trans (hxc.le hxM3.next)
  have F1 : F C1 := hF _ hC1.keep
  have hatl : atL (redS f a) (redR f a p) = f := zCC hred.per
  have hsc := scanned_ref hxc.wf (x := ⟨(m : Int),xa,xc,redS f a,xr,p,redR f a p⟩) ⟨i1.mono (Nat.zero_le _) (Nat.le_refl _),i2.mono (Nat.zero_le _) (Nat.le_refl _),by show (redS f a).length < _; rw [zAL]; omega,by show (redR f a p).length < _; rw [zAG]; omega⟩ (m := m) rfl hm
    (by
      intro n
      show 0 ≤ atL (redS f a) (redR f a p) n ∧ atL (redS f a) (redR f a p) n < _
      rw [hatl]
      exact hlim n) (by show (redS f a).length ≤ 1000; rw [zAL]; omega) (by show 1 ≤ (redR f a p).length ∧ (redR f a p).length ≤ 20000; rw [zAG]; omega)
    (by
      show Red (atL (redS f a) (redR f a p)) (redS f a).length (redR f a p).length
      rw [hatl,zAL,zAG]
      exact hred) (step := x.ro.length) hxr
  have hv1 : (⟨(m : Int),xa,xc,redS f a,xr,p,redR f a p⟩ : Las).v = .agg #[.int .i64 (m : Int),.slice xa a xc,.slice xr p p] := by
    show Value.agg #[_,.slice _ (redS f a).length _,.slice _ (redR f a p).length _] = _
    rw [zAL,zAG]
  rw [hv1] at hsc
  refine Dr.read (by first | rfl | kernel_rfl) (by rfl) (by assumption) (fun M hM => by simp only [zAY,zAT,ne_eq,Nat.reduceEqDiff,zNf,fx,fad,zAR,Nat.zero_add,Nat.reduceAdd,zBG,s7] <;> rfl) (by rfl) (by first | exact VQ.int _ _ | exact VQ.bool _ | exact VQ.ptr _ _ | exact VQ.slice _ _ _ | exact VQ.func (by simp [zAW,zAV,zAZ]) (by simp [zAW,zAV,zAZ]) | exact VQ.agg (by simp [zAW,zAV,zAZ]) | exact VQ.tuple (by simp [zAW,zAV,zAZ])) ?_
  refine Dr.read (by first | rfl | kernel_rfl) (by rfl) (by assumption) (fun M hM => by simp only [zAY,zAU,sp_n,Nat.reduceLT,fx,ld,zAR,Nat.zero_add,Nat.reduceAdd,tk22,hn,hF7 M hM] <;> rfl) (by rfl) (by first | exact VQ.int _ _ | exact VQ.bool _ | exact VQ.ptr _ _ | exact VQ.slice _ _ _ | exact VQ.func (by simp [zAW,zAV,zAZ]) (by simp [zAW,zAV,zAZ]) | exact VQ.agg (by simp [zAW,zAV,zAZ]) | exact VQ.tuple (by simp [zAW,zAV,zAZ])) ?_
  refine Dr.read (by first | rfl | kernel_rfl) (by rfl) (by assumption) (fun M hM => by simp only [zAY,zAU,sp_n,Nat.reduceLT,fx,lng,Nat.zero_add,Nat.reduceAdd,un22,hn] <;> rfl) (by rfl) (by first | exact VQ.int _ _ | exact VQ.bool _ | exact VQ.ptr _ _ | exact VQ.slice _ _ _ | exact VQ.func (by simp [zAW,zAV,zAZ]) (by simp [zAW,zAV,zAZ]) | exact VQ.agg (by simp [zAW,zAV,zAZ]) | exact VQ.tuple (by simp [zAW,zAV,zAZ])) ?_
  refine Dr.call (by kernel_rfl) (by rfl) F1 (by rfl) (zAA (by rfl) ⟨by rfl,by rfl⟩ (by rfl) (xs := [.agg #[.int .i64 (m : Int),.slice xa a xc,.slice xr p p],.int .i64 (x.ro.length : Int)]) (by simp only [zAY,zAU,zAT,sp_n,Nat.reduceLT,ne_eq,Nat.reduceEqDiff,zNf,List.map_cons,List.map_nil,List.nil_append,List.append_nil,hn]) (Con.mono hsc fun v A1 h => (⟨⟨(m : Int),xa,xc,redS f a,xr,p,redR f a p⟩,rfl,hatl,(by show (redS f a).length ≤ 1000; rw [zAL]; omega),h⟩ : cvRS (m : Int) f x.ro.length 92 _ C1 v A1))) ?_
  rintro v C2 ⟨x',xm,xs,xst,hx2,hq⟩
  rw [xm,xs] at hq
  have hC2 : Nx G.next G C2 := hC1.trans (hx2.le hC1.next)
  have F2 : F C2 := hF _ hC2.keep
  have nC1 := hC1.next
  have nC2 := hx2.next
  have nM3 := hxc.next
  have hnb : Canon.look C2.objs (G.next + 13) = none := by
    rw [hx2.keep _ (by omega),hxc.keep _ (by omega),kM3 _ (by omega)]
    exact hwG.none (by omega)
  obtain ⟨C3,p3',w3,n3,l3,kp3⟩ := place_al hx2.wf (b := G.next + 13) (by omega) hnb [.int .i64 0,.slice none 0 0,.slice none 0 0] 24
  have F3 : F C3 := hF _ fun b hb => (kp3 _ (by omega)).trans (hC2.keep _ hb)
  have hgl : ∀ n,0 ≤ scn (m : Int) f x.ro.length n ∧ scn (m : Int) f x.ro.length n < (m : Int) := fun n => scn_lim (by omega) n
  rcases hq with ⟨rfl,⟨N',d,hper⟩,hlg⟩ | ⟨a',p',za,zc,zr,hred',ha',hp4,rfl,hac',j1,j2,z1,z2⟩
  · obtain ⟨C4,c4,u1,u2,u3,u4⟩ := zCV (l := [.int .i64 0,.slice none 0 0,.slice none 0 0]) (o := 0) l3 rfl (by simp) rfl
    have n4 := u2.next
    have hC4 : Nx G.next G C4 := ⟨by omega,(u2.nx w3 (Nat.zero_le _)).wf,fun b hb => by rw [u2.off _ (by omega),kp3 _ (by omega)]; exact hC2.keep _ hb⟩
    have F4 : F C4 := hF _ hC4.keep
    refine Dr.read (by first | rfl | kernel_rfl) (by rfl) (by assumption) (fun M hM => by simp only [zAY,zAU,sp_n,Nat.reduceLT,fx,Nat.zero_add,Nat.reduceAdd,hn] <;> rfl) (by rfl) (by first | exact vq_lb | exact VQ.int _ _ | exact VQ.bool _ | exact VQ.ptr _ _ | exact VQ.slice _ _ _ | exact VQ.func (by simp [zAW,zAV,zAZ]) (by simp [zAW,zAV,zAZ]) | exact VQ.agg (by simp [zAW,zAV,zAZ]) | exact VQ.tuple (by simp [zAW,zAV,zAZ])) ?_
    refine Dr.read (by first | rfl | kernel_rfl) (by rfl) (by assumption) (fun M hM => by simp only [zAY,zAU,sp_n,Nat.reduceLT,fx,ext,List.getElem?_toArray,List.getElem?_cons_zero,Nat.zero_add,Nat.reduceAdd,hn,ext] <;> rfl) (by rfl) (by first | exact vq_lb | exact VQ.int _ _ | exact VQ.bool _ | exact VQ.ptr _ _ | exact VQ.slice _ _ _ | exact VQ.func (by simp [zAW,zAV,zAZ]) (by simp [zAW,zAV,zAZ]) | exact VQ.agg (by simp [zAW,zAZ]) | exact VQ.tuple (by simp [zAW,zAV,zAZ])) ?_
    refine Dr.read (by first | rfl | kernel_rfl) (by rfl) (by assumption) (fun M hM => by simp only [zAY,zAU,zAT,sp_n,Nat.reduceLT,ne_eq,Nat.reduceEqDiff,zNf,fx,ext,List.getElem?_toArray,List.getElem?_cons_zero,List.getElem?_cons_succ,Nat.zero_add,Nat.reduceAdd,hn,ext] <;> rfl) (by rfl) (by first | exact vq_lb | exact VQ.int _ _ | exact VQ.bool _ | exact VQ.ptr _ _ | exact VQ.slice _ _ _ | exact VQ.func (by simp [zAW,zAV,zAZ]) (by simp [zAW,zAV,zAZ]) | exact VQ.agg (by simp [zAW,zAV,zAZ]) | exact VQ.tuple (by simp [zAW,zAV,zAZ])) ?_
    refine Dr.float (by rfl) (by rfl) (by rfl) fbal24 ?_
    refine Dr.eff (by rfl) (by rfl) (pd1 := [(13,⟨[.int .i64 0,.slice none 0 0,.slice none 0 0],24,.ptr⟩)]) (pd2 := []) (by kernel_rfl) (by kernel_rfl) (ms0 := [C2]) (A0 := C3) (by simp only [zBU,p3']) (fun M hM => by rw [List.mem_singleton] at hM; rw [hM]; exact F2) F3 (by rfl)
      (v := undef) (A1 := C4) (zBQ rfl (fx_ok (by rfl) (by simp only [zAY,zAU,zAT,sp_n,Nat.reduceLT,ne_eq,Nat.reduceEqDiff,zNf,fx,str,zAR,Nat.zero_add,Nat.reduceAdd,tk24,hn,FK.val,u1,List.size_toArray,List.length_cons,List.length_nil,Nat.beq_refl]))) ?_
    refine Dr.read (by first | rfl | kernel_rfl) (by rfl) (by assumption) (fun M hM => by simp only [zAY,zAU,zAT,sp_n,zAK,Nat.reduceLT,ne_eq,Nat.reduceEqDiff,zNf,fx,Nat.zero_add,Nat.reduceAdd,hn] <;> rfl) (by rfl) (by first | exact VQ.int _ _ | exact VQ.bool _ | exact VQ.ptr _ _ | exact VQ.slice _ _ _ | exact VQ.func (by simp [zAW,zAV,zAZ]) (by simp [zAW,zAV,zAZ]) | exact VQ.agg (by simp [zAW,zAV,zAZ]) | exact VQ.tuple (by simp [zAW,zAV,zAZ])) ?_
    refine Dr.nil (by rfl) (fun M hM => by cases hM) F4 ⟨C4,by rfl,?_⟩
    (repeat (first | refine Rn.seq hc ?_ | refine Rn.skip hc ?_ | refine Rn.block hc ?_ | refine Rn.inBlock hc ?_ | refine Rn.scope hc ?_ | refine Rn.inScope hc ?_))
    have hA4 : Nx A.next A C4 := hA.trans (hC4.le nG)
    obtain ⟨D,q1,g0,g1,g2,hxD⟩ := err_fin hA4 hR (by omega) ((hC4.keep _ hRG).trans lR)
    refine Rn.reg hc rfl ?_
    simp only [zAY,zAU,sp_n,zAK,Nat.reduceLT,gd,zAX,rops,fx,Nat.zero_add,zOi,zEl,Nat.reduceAdd,Bool.not_false,ae_not',Bool.not_false,hn]
    (repeat (first | refine Rn.seq hc ?_ | refine Rn.skip hc ?_ | refine Rn.block hc ?_ | refine Rn.inBlock hc ?_ | refine Rn.scope hc ?_ | refine Rn.inScope hc ?_))
    refine Rn.zAM hc rfl ?_
    simp only [zAY,zAU,sp_n,Nat.reduceLT,Value.bool.injEq,zEl,hn]
    (repeat (first | refine Rn.seq hc ?_ | refine Rn.skip hc ?_ | refine Rn.block hc ?_ | refine Rn.inBlock hc ?_ | refine Rn.scope hc ?_ | refine Rn.inScope hc ?_))
    refine Rn.reg hc rfl ?_
    simp only [zAY,zAS,zAU,zAT,sp_n,zAK,Nat.reduceLT,ne_eq,Nat.reduceEqDiff,zNf,gd,zAX,rops,fx,str,zAR,Nat.zero_add,zOi,zEl,Nat.reduceAdd,tk24,hn,s4,bd24_z,q1,List.size_toArray,List.length_cons,List.length_nil,Nat.beq_refl]
    (repeat (first | refine Rn.seq hc ?_ | refine Rn.skip hc ?_ | refine Rn.block hc ?_ | refine Rn.inBlock hc ?_ | refine Rn.scope hc ?_ | refine Rn.inScope hc ?_))
    refine Rn.ret (zCT rfl (v := .agg #[.int .i64 0,.slice none 0 0,.slice none 0 0]) ?_ ?_)
    · simp only [zAT,ne_eq,Nat.reduceEqDiff,zNf,ld,zAR,cls,Nat.zero_add,Nat.reduceAdd,tk24,s4,g0,g1,g2]
    · simp only [zAU,sp_n,Nat.reduceLT,hn]
      have hl := lcmN_facts (show 0 < d from hper.pos) (show 0 < y.ro.length by omega)
      exact tldR_tp (tp_long (scn_per_m (show 0 < m by omega) (show 0 < y.ro.length by omega) hl.1 (Nat.dvd_of_mod_eq_zero hl.2.2.1) fun n hn => by
        obtain ⟨q,hq⟩ := Nat.dvd_of_mod_eq_zero hl.2.1
        rw [hq,Nat.mul_comm]
        exact hper.times q n hn) (scn_long (show 0 < m by omega) (show 0 < y.ro.length by omega) hgl hlg)) hxD
  · obtain ⟨C4,c4,u1,u2,u3,u4⟩ := zCV (l := [.int .i64 (m : Int),.slice za a' zc,.slice zr p' p']) (o := 0) l3 rfl (by simp) rfl
    have n4 := u2.next
    have hC4 : Nx G.next G C4 := ⟨by omega,(u2.nx w3 (Nat.zero_le _)).wf,fun b hb => by rw [u2.off _ (by omega),kp3 _ (by omega)]; exact hC2.keep _ hb⟩
    have F4 : F C4 := hF _ hC4.keep
    refine Dr.read (by first | rfl | kernel_rfl) (by rfl) (by assumption) (fun M hM => by simp only [zAY,zAU,sp_n,Nat.reduceLT,fx,Nat.zero_add,Nat.reduceAdd,hn] <;> rfl) (by rfl) (by first | exact vq_lb | exact VQ.int _ _ | exact VQ.bool _ | exact VQ.ptr _ _ | exact VQ.slice _ _ _ | exact VQ.func (by simp [zAW,zAV,zAZ]) (by simp [zAW,zAV,zAZ]) | exact VQ.agg (by simp [zAW,zAV,zAZ]) | exact VQ.tuple (by simp [zAW,zAV,zAZ])) ?_
    refine Dr.read (by first | rfl | kernel_rfl) (by rfl) (by assumption) (fun M hM => by simp only [zAY,zAU,sp_n,Nat.reduceLT,fx,ext,List.getElem?_toArray,List.getElem?_cons_zero,Nat.zero_add,Nat.reduceAdd,hn,ext] <;> rfl) (by rfl) (by first | exact vq_lb | exact VQ.int _ _ | exact VQ.bool _ | exact VQ.ptr _ _ | exact VQ.slice _ _ _ | exact VQ.func (by simp [zAW,zAV,zAZ]) (by simp [zAW,zAV,zAZ]) | exact VQ.agg (by simp [zAW,zAZ]) | exact VQ.tuple (by simp [zAW,zAV,zAZ])) ?_
    refine Dr.read (by first | rfl | kernel_rfl) (by rfl) (by assumption) (fun M hM => by simp only [zAY,zAU,zAT,sp_n,Nat.reduceLT,ne_eq,Nat.reduceEqDiff,zNf,fx,ext,List.getElem?_toArray,List.getElem?_cons_zero,List.getElem?_cons_succ,Nat.zero_add,Nat.reduceAdd,hn,ext] <;> rfl) (by rfl) (by first | exact vq_lb | exact VQ.int _ _ | exact VQ.bool _ | exact VQ.ptr _ _ | exact VQ.slice _ _ _ | exact VQ.func (by simp [zAW,zAV,zAZ]) (by simp [zAW,zAV,zAZ]) | exact VQ.agg (by simp [zAW,zAV,zAZ]) | exact VQ.tuple (by simp [zAW,zAV,zAZ])) ?_
    refine Dr.float (by rfl) (by rfl) (by rfl) fbal24 ?_
    refine Dr.eff (by rfl) (by rfl) (pd1 := [(13,⟨[.int .i64 0,.slice none 0 0,.slice none 0 0],24,.ptr⟩)]) (pd2 := []) (by kernel_rfl) (by kernel_rfl) (ms0 := [C2]) (A0 := C3) (by simp only [zBU,p3']) (fun M hM => by rw [List.mem_singleton] at hM; rw [hM]; exact F2) F3 (by rfl)
      (v := undef) (A1 := C4) (zBQ rfl (fx_ok (by rfl) (by simp only [zAY,zAU,zAT,sp_n,Nat.reduceLT,ne_eq,Nat.reduceEqDiff,zNf,fx,str,zAR,Nat.zero_add,Nat.reduceAdd,tk24,hn,FK.val,u1,List.size_toArray,List.length_cons,List.length_nil,Nat.beq_refl]))) ?_
    refine Dr.read (by first | rfl | kernel_rfl) (by rfl) (by assumption) (fun M hM => by simp only [zAY,zAU,zAT,sp_n,zAK,Nat.reduceLT,ne_eq,Nat.reduceEqDiff,zNf,fx,Nat.zero_add,Nat.reduceAdd,hn] <;> rfl) (by rfl) (by first | exact VQ.int _ _ | exact VQ.bool _ | exact VQ.ptr _ _ | exact VQ.slice _ _ _ | exact VQ.func (by simp [zAW,zAV,zAZ]) (by simp [zAW,zAV,zAZ]) | exact VQ.agg (by simp [zAW,zAV,zAZ]) | exact VQ.tuple (by simp [zAW,zAV,zAZ])) ?_
    refine Dr.nil (by rfl) (fun M hM => by cases hM) F4 ⟨C4,by rfl,?_⟩
    (repeat (first | refine Rn.seq hc ?_ | refine Rn.skip hc ?_ | refine Rn.block hc ?_ | refine Rn.inBlock hc ?_ | refine Rn.scope hc ?_ | refine Rn.inScope hc ?_))
    have hext : ∀ b,C1.next ≤ b → Canon.look C2.objs b = none ∨ Canon.look C4.objs b = Canon.look C2.objs b := fun b hb => .inr (by rw [u2.off _ (by omega),kp3 _ (by omega)])
    obtain ⟨one,h1⟩ : ∃ one : Las,one = ⟨(m : Int),za,zc,redS (scn (m : Int) f x.ro.length) a',zr,p',redR (scn (m : Int) f x.ro.length) a' p'⟩ := ⟨_,rfl⟩
    have os : one.s = scn (m : Int) f x.ro.length := by rw [h1]; exact zCC hred'.per
    have ost : one.st.length = a' := by rw [h1]; exact zAL _ _
    have oro : one.ro.length = p' := by rw [h1]; exact zAG _ _ _
    have hp0' := hred'.per.pos
    have h16 : Hs C4 (G.next + 13) one := { c0 := by rw [u2.cl,u4,h1]; rfl,c1 := by rw [u2.cl,u4,ost,h1]; rfl,c2 := by rw [u2.cl,u4,oro,h1]; rfl,ok := ⟨by rw [h1]; exact (j1.ext hext (by omega)).mono (Nat.zero_le _) (Nat.le_refl _),by rw [h1]; exact (j2.ext hext (by omega)).mono (Nat.zero_le _) (Nat.le_refl _),by omega,by omega⟩,lt := by omega }
    refine Rn.reg hc rfl ?_
    simp only [zAY,zAU,sp_n,zAK,Nat.reduceLT,gd,zAX,rops,fx,Nat.zero_add,zOi,zEl,Nat.reduceAdd,Bool.not_true,ae_not',Bool.not_true,hn]
    refine Rn.zAM hc rfl ?_
    simp only [zAY,zAU,sp_n,Nat.reduceLT,hn,Value.bool.injEq,zEl]
    refine Rn.skip hc ?_
    exact cr_two (hA.trans (hC4.le nG)) ((hC4.keep _ hRG).trans lR) hR (by omega) (h8.nx hC4) h16 hm (by rw [h1]) (fun n => by rw [os]; exact hgl n) (by omega) (by omega) (by rw [os,ost,oro]; exact hred') hy (by rw [os]) (by simp only [sp_n,hn]) (by simp only [zAT,ne_eq,Nat.reduceEqDiff,zNf,s4]) (by simp only [zAT,ne_eq,Nat.reduceEqDiff,zNf,s8]) (by simp only [zAU,zAT,sp_n,Nat.reduceLT,ne_eq,Nat.reduceEqDiff,zNf,hn]; rfl)
end Go.Proofs.Ytdaljohmfnfgiaa
namespace Go.Proofs.Ytdaljohmfnfgiaa
open Go Go.RowKit Go.Proofs.Ytdaljohmfnfgiaa.Canon
set_option maxRecDepth 20000
theorem ints_at {A : AHeap} {a : Option Addr} {lo hi : Nat} {l : List Int} (h : Ints A a lo hi l) (h0 : 0 < l.length) : ∃ b o,a = some ⟨b,o,none⟩ ∧ lo ≤ b ∧ b < hi ∧ ∀ i,i < l.length → cl A b (o + i) = some (.int .i64 (l.getD i 0)) := by
  obtain ⟨b,o,rfl,h1,h2,_⟩ := h 0 h0
  refine ⟨b,o,rfl,h1,h2,fun i hi => ?_⟩
  obtain ⟨b',o',e,_,_,h4⟩ := h i hi
  cases e
  exact h4
theorem cr_prod {A B : AHeap} (hA : Nx A.next A B) {bR b2 b7 b8 : Nat} {m : Nat} {x y : Las} {p q : Nat → Int} {Lx Ly : Nat} {ap aq : Option Addr} (lR : Canon.look B.objs bR = some ⟨.cells #[.int .i64 0,.slice none 0 0,.slice none 0 0] 24,false,0⟩) (hR : A.next ≤ bR) (hRB : bR < B.next) (h2 : cl B b2 0 = some (.int .i64 (m : Int))) (l2 : b2 < B.next) (h7 : Hs B b7 x) (h8 : Hs B b8 y)
    (hp : Ints B ap 0 B.next (redS p Lx)) (hq : Ints B aq 0 B.next (redS q Ly)) (pl : ∀ i,0 ≤ p i ∧ p i < (m : Int)) (ql : ∀ i,0 ≤ q i ∧ q i < (m : Int)) (p0 : ∀ i,Lx ≤ i → p i = 0) (q0 : ∀ i,Ly ≤ i → q i = 0) (hLx : 1 ≤ Lx ∧ Lx ≤ 180) (hLy : 1 ≤ Ly ∧ Ly ≤ 180) (hm : 2 ≤ m ∧ m ≤ 65521) (hxr : 1 ≤ x.ro.length ∧ x.ro.length ≤ 120) (hy : 1 ≤ y.ro.length ∧ y.ro.length ≤ 120)
    {s : Slots} (hn : s.n = 105) (s2 : sget s 2 = .pointer (some ⟨b2,0,none⟩)) (s4 : sget s 4 = .pointer (some ⟨bR,0,none⟩)) (s7 : sget s 7 = .pointer (some ⟨b7,0,none⟩)) (s8 : sget s 8 = .pointer (some ⟨b8,0,none⟩)) (s9 : sget s 9 = .slice ap Lx Lx) (s10 : sget s 10 = .slice aq Ly Ly) :
    Rn Try.prog 50 none [.code (restN 4 (Try.f50.body.getD .skip))] s [] B (endQ Try.prog Try.f50 (TldR A 0 m (scn m (scn m (conv m p q) x.ro.length) y.ro.length))) := by
  have nB := hA.next
  obtain ⟨bp,op,rfl,-,hbp,cp⟩ := ints_at hp (by rw [zAL]; omega)
  obtain ⟨bq,oq,rfl,-,hbq,cq⟩ := ints_at hq (by rw [zAL]; omega)
  have cp : ∀ i,i < Lx → cl B bp (op + i) = some (.int .i64 (p i)) := fun i hi => by rw [cp i (by rw [zAL]; exact hi),zCD hi]
  have cq : ∀ i,i < Ly → cl B bq (oq + i) = some (.int .i64 (q i)) := fun i hi => by rw [cq i (by rw [zAL]; exact hi),zCD hi]
  obtain ⟨N,hN⟩ : ∃ N,N = Lx + Ly := ⟨_,rfl⟩
  have hw0 : IntKind.i64.wrap ((Lx : Int) + (Ly : Int)) = (N : Int) := by rw [IntWalk.i64_in _ (by omega)]; omega
  have hx2 : Nx B.next B (B.push (.cells (Array.replicate N (.int .i64 0)) 3)) := (Nx.refl hA.wf _).push (Nat.le_refl _) _
  have l2' := zAI B (.cells (Array.replicate N (.int .i64 0)) 3)
  generalize e2 : B.push (.cells (Array.replicate N (.int .i64 0)) 3) = A2 at hx2 l2'
  refine Rn.seq hc ?_
  refine Rn.reg hc rfl ?_
  simp only [zAY,zAU,zAT,sp_n,Nat.reduceLT,ne_eq,Nat.reduceEqDiff,zNf,gd,zAX,rops,fx,lng,zAH,zOi,zEl,un22,hn,s9,s10,hw0,ae_mk2,mk2_nat (show N ≤ 1000000 by omega),e2]
  (repeat (first | refine Rn.seq hc ?_ | refine Rn.skip hc ?_ | refine Rn.block hc ?_ | refine Rn.inBlock hc ?_ | refine Rn.scope hc ?_ | refine Rn.inScope hc ?_))
  refine Rn.reg hc rfl ?_
  simp only [zAY,zAS,zAU,zAT,sp_n,Nat.reduceLT,ne_eq,Nat.reduceEqDiff,zNf,gd,zAX,rops,fx,lng,zOi,zEl,un22,hn,s9]
  (repeat (first | refine Rn.seq hc ?_ | refine Rn.skip hc ?_ | refine Rn.block hc ?_ | refine Rn.inBlock hc ?_ | refine Rn.scope hc ?_ | refine Rn.inScope hc ?_))
  obtain ⟨bS,hbS⟩ : ∃ b,b = B.next := ⟨_,rfl⟩
  rw [← hbS] at l2' ⊢
  refine Rn.zDY hc (I := fun k s D => ∃ i,∃ c : Array Value,i ≤ Lx ∧ k = Lx - i ∧ Nx B.next B D ∧ c.size = N ∧ Canon.look D.objs bS = some ⟨.cells c 3,false,0⟩ ∧ (∀ t,t < N → c[t]? = some (.int .i64 (rwS p q t i % (m : Int)))) ∧ s.n = 105 ∧ sget s 2 = .pointer (some ⟨b2,0,none⟩) ∧ sget s 4 = .pointer (some ⟨bR,0,none⟩) ∧ sget s 7 = .pointer (some ⟨b7,0,none⟩) ∧ sget s 8 = .pointer (some ⟨b8,0,none⟩) ∧ sget s 10 = .slice (some ⟨bq,oq,none⟩) Ly Ly ∧ sget s 11 = .slice (some ⟨bS,0,none⟩) N N ∧ sget s 40 = .slice (some ⟨bp,op,none⟩) Lx Lx ∧ sget s 41 = .int .i64 (Lx : Int) ∧ sget s 42 = .int .i64 (i : Int))
    (n := Lx) ⟨0,_,by omega,rfl,hx2,by simp,l2',fun t ht => by
      show _ = some (Value.int .i64 ((0 : Int) % _))
      rw [Int.zero_emod]
      simp [ht],by simp only [sp_n,hn],by simp only [zAT,ne_eq,Nat.reduceEqDiff,zNf,s2],by simp only [zAT,ne_eq,Nat.reduceEqDiff,zNf,s4],by simp only [zAT,ne_eq,Nat.reduceEqDiff,zNf,s7],by simp only [zAT,ne_eq,Nat.reduceEqDiff,zNf,s8],by simp only [zAT,ne_eq,Nat.reduceEqDiff,zNf,s10],by simp only [zAU,zAT,sp_n,Nat.reduceLT,ne_eq,Nat.reduceEqDiff,zNf,hn],by simp only [zAU,zAT,sp_n,Nat.reduceLT,ne_eq,Nat.reduceEqDiff,zNf,hn],by simp only [zAU,zAT,sp_n,Nat.reduceLT,ne_eq,Nat.reduceEqDiff,zNf,hn],by simp only [zAU,sp_n,Nat.reduceLT,hn]; rfl⟩ ?_
  clear hn s2 s4 s7 s8 s9 s10 s e2
  rintro k s D ⟨i,c,hi,rfl,hD,hcs,lD,hcv,hn,s2,s4,s7,s8,s10,s11,s40,s41,s42⟩ ih
  have nD := hD.next
  (repeat (first | refine Rn.seq hc ?_ | refine Rn.skip hc ?_ | refine Rn.block hc ?_ | refine Rn.inBlock hc ?_ | refine Rn.scope hc ?_ | refine Rn.inScope hc ?_))
  by_cases hlt : i < Lx
  · have hd : decide ((i : Int) < (Lx : Int)) = true := decide_eq_true (by omega)
    have cpi := (hD.cl hbp (op + i)).trans (cp i hlt)
    refine Rn.reg hc rfl ?_
    simp only [zAY,gd,zAX,rops,fx,zAN,zOi,zEl,s41,s42,hd]
    (repeat (first | refine Rn.seq hc ?_ | refine Rn.skip hc ?_ | refine Rn.block hc ?_ | refine Rn.inBlock hc ?_ | refine Rn.scope hc ?_ | refine Rn.inScope hc ?_))
    refine Rn.zAM hc rfl ?_
    simp only [zAY,zAU,Nat.reduceLT,Value.bool.injEq,zEl,hn]
    (repeat (first | refine Rn.seq hc ?_ | refine Rn.skip hc ?_ | refine Rn.block hc ?_ | refine Rn.inBlock hc ?_ | refine Rn.scope hc ?_ | refine Rn.inScope hc ?_))
    refine Rn.reg hc rfl ?_
    simp only [zAY,zAU,zAT,sp_n,Nat.reduceLT,ne_eq,Nat.reduceEqDiff,zNf,gd,zAX,rops,fx,ld,idx,zAR,zOi,zEl,Nat.mul_one,tk3,eo22,hn,s40,s42,zAQ hlt,cpi]
    (repeat (first | refine Rn.seq hc ?_ | refine Rn.skip hc ?_ | refine Rn.block hc ?_ | refine Rn.inBlock hc ?_ | refine Rn.scope hc ?_ | refine Rn.inScope hc ?_))
    refine Rn.reg hc rfl ?_
    simp only [zAY,zAS,zAU,zAT,sp_n,Nat.reduceLT,ne_eq,Nat.reduceEqDiff,zNf,gd,zAX,rops,fx,lng,zOi,zEl,un22,hn,s10]
    (repeat (first | refine Rn.seq hc ?_ | refine Rn.skip hc ?_ | refine Rn.block hc ?_ | refine Rn.inBlock hc ?_ | refine Rn.scope hc ?_ | refine Rn.inScope hc ?_))
    refine Rn.zDY hc (I := fun k s E => ∃ j,∃ c : Array Value,j ≤ Ly ∧ k = Ly - j ∧ Nx B.next B E ∧ c.size = N ∧ Canon.look E.objs bS = some ⟨.cells c 3,false,0⟩ ∧ (∀ t,t < N → c[t]? = some (.int .i64 ((if i ≤ t ∧ t < i + j then rwS p q t (i + 1) else rwS p q t i) % (m : Int)))) ∧ s.n = 105 ∧ sget s 2 = .pointer (some ⟨b2,0,none⟩) ∧ sget s 4 = .pointer (some ⟨bR,0,none⟩) ∧ sget s 7 = .pointer (some ⟨b7,0,none⟩) ∧ sget s 8 = .pointer (some ⟨b8,0,none⟩) ∧ sget s 10 = .slice (some ⟨bq,oq,none⟩) Ly Ly ∧ sget s 11 = .slice (some ⟨bS,0,none⟩) N N ∧ sget s 12 = .int .i64 (i : Int) ∧ sget s 13 = .int .i64 (p i) ∧ sget s 40 = .slice (some ⟨bp,op,none⟩) Lx Lx ∧ sget s 41 = .int .i64 (Lx : Int) ∧ sget s 42 = .int .i64 (i : Int) ∧ sget s 47 = .slice (some ⟨bq,oq,none⟩) Ly Ly ∧ sget s 48 = .int .i64 (Ly : Int) ∧ sget s 49 = .int .i64 (j : Int))
      (n := Ly) ⟨0,c,by omega,rfl,hD,hcs,lD,fun t ht => by rw [if_neg (by omega)]; exact hcv t ht,by simp only [sp_n,hn],by simp only [zAT,ne_eq,Nat.reduceEqDiff,zNf,s2],by simp only [zAT,ne_eq,Nat.reduceEqDiff,zNf,s4],by simp only [zAT,ne_eq,Nat.reduceEqDiff,zNf,s7],by simp only [zAT,ne_eq,Nat.reduceEqDiff,zNf,s8],by simp only [zAT,ne_eq,Nat.reduceEqDiff,zNf,s10],by simp only [zAT,ne_eq,Nat.reduceEqDiff,zNf,s11],by simp only [zAU,zAT,sp_n,Nat.reduceLT,ne_eq,Nat.reduceEqDiff,zNf,hn],by simp only [zAU,zAT,sp_n,Nat.reduceLT,ne_eq,Nat.reduceEqDiff,zNf,hn],by simp only [zAT,ne_eq,Nat.reduceEqDiff,zNf,s40],by simp only [zAT,ne_eq,Nat.reduceEqDiff,zNf,s41],by simp only [zAT,ne_eq,Nat.reduceEqDiff,zNf,s42],by simp only [zAU,zAT,sp_n,Nat.reduceLT,ne_eq,Nat.reduceEqDiff,zNf,hn],by simp only [zAU,zAT,sp_n,Nat.reduceLT,ne_eq,Nat.reduceEqDiff,zNf,hn],by simp only [zAU,sp_n,Nat.reduceLT,hn]; rfl⟩ ?_
    clear hn s2 s4 s7 s8 s10 s11 s40 s41 s42 s hcv hcs lD c cpi hD nD D hd
    rintro k s D ⟨j,c,hj,rfl,hD,hcs,lD,hcv,hn,s2,s4,s7,s8,s10,s11,s12,s13,s40,s41,s42,s47,s48,s49⟩ ih2
    have nD := hD.next
    have lSD : bS < D.next := hD.wf _ _ lD
    (repeat (first | refine Rn.seq hc ?_ | refine Rn.skip hc ?_ | refine Rn.block hc ?_ | refine Rn.inBlock hc ?_ | refine Rn.scope hc ?_ | refine Rn.inScope hc ?_))
    by_cases hltj : j < Ly
    · have hd : decide ((j : Int) < (Ly : Int)) = true := decide_eq_true (by omega)
      have cqj := (hD.cl hbq (oq + j)).trans (cq j hltj)
      have c2 := (hD.cl l2 0).trans h2
      have htN : i + j < N := by omega
      have hct := hcv (i + j) htN
      rw [if_neg (by omega)] at hct
      have hcl : cl D bS (i + j) = some (.int .i64 (rwS p q (i + j) i % (m : Int))) := by rw [zCE lD rfl]; exact hct
      have u1 := Int.emod_nonneg (rwS p q (i + j) i) (show (m : Int) ≠ 0 by omega)
      have u2 := Int.emod_lt_of_pos (rwS p q (i + j) i) (show (0 : Int) < (m : Int) by omega)
      have hmul := mul_lim (pl i).1 (show p i < 65536 by have := (pl i).2; omega) (ql j).1 (show q j < 65536 by have := (ql j).2; omega)
      have hwm : IntKind.i64.wrap (p i * q j) = p i * q j := IntWalk.i64_in _ ⟨by omega,by omega⟩
      have hwa : IntKind.i64.wrap (rwS p q (i + j) i % (m : Int) + p i * q j) = rwS p q (i + j) i % (m : Int) + p i * q j := IntWalk.i64_in _ ⟨by omega,by omega⟩
      have hwi : IntKind.i64.wrap ((i : Int) + (j : Int)) = ((i + j : Nat) : Int) := by rw [IntWalk.i64_in _ (by omega)]; omega
      have hr : ∀ M,bin Try.prog .rem 3 (.int .i64 (rwS p q (i + j) i % (m : Int) + p i * q j)) (.int .i64 (m : Int)) M = some (.int .i64 (rwS p q (i + j) (i + 1) % (m : Int)),M) := fun M => by
        rw [zCS _ _ _ _ (by omega),Int.tmod_eq_emod_of_nonneg (by omega),Int.emod_add_emod,rwS_in]
      obtain ⟨D2,v1,v2⟩ := st1_upd (o := i + j) (v := .int .i64 (rwS p q (i + j) (i + 1) % (m : Int))) (A := bump D 19) (c := c) (b := bS) (t := 3) (f := (0,0)) (g := false) (e := 0) lD rfl (by omega) rfl
      refine Rn.reg hc rfl ?_
      simp only [zAY,gd,zAX,rops,fx,zAN,zOi,zEl,s48,s49,hd]
      (repeat (first | refine Rn.seq hc ?_ | refine Rn.skip hc ?_ | refine Rn.block hc ?_ | refine Rn.inBlock hc ?_ | refine Rn.scope hc ?_ | refine Rn.inScope hc ?_))
      refine Rn.zAM hc rfl ?_
      simp only [zAY,zAU,Nat.reduceLT,Value.bool.injEq,zEl,hn]
      (repeat (first | refine Rn.seq hc ?_ | refine Rn.skip hc ?_ | refine Rn.block hc ?_ | refine Rn.inBlock hc ?_ | refine Rn.scope hc ?_ | refine Rn.inScope hc ?_))
      refine Rn.reg hc rfl ?_
      simp only [zAY,zAU,zAT,sp_n,Nat.reduceLT,ne_eq,Nat.reduceEqDiff,zNf,gd,zAX,rops,fx,ld,idx,zAR,zOi,zEl,Nat.mul_one,tk3,eo22,hn,s47,s49,zAQ hltj,cqj]
      (repeat (first | refine Rn.seq hc ?_ | refine Rn.skip hc ?_ | refine Rn.block hc ?_ | refine Rn.inBlock hc ?_ | refine Rn.scope hc ?_ | refine Rn.inScope hc ?_))
      refine Rn.drawn1 hc hx noS 18 rfl rfl rfl (by kernel_rfl) (by kernel_rfl) (by kernel_rfl) (by rfl) (by kernel_rfl) (by kernel_rfl) (by rfl) ?_ ?_
      · simp (maxSteps := 2000000) only [List.take_succ_cons,List.take_zero,rdV,VQ.int,VQ.ptr,VQ.slice,zBT,zAY,zAU,zAT,sp_n,Nat.reduceLT,ne_eq,Nat.reduceEqDiff,not_false_eq_true,gd,zAX,fx,ld,fad,idx,zAH,bin_mul,zAR,Nat.zero_add,Nat.add_zero,Nat.reduceAdd,Nat.mul_one,and_self,tk3,zBJ,eo22,hn,s2,s11,s12,s13,hwi,hwm,hwa,hr,c2,hcl,zAQ htN]
      simp (maxSteps := 2000000) only [List.take_succ_cons,List.take_zero,zBT,zAY,zAU,zAT,sp_n,zAK,Nat.reduceLT,ne_eq,Nat.reduceEqDiff,not_false_eq_true,gd,zAX,rops,fx,ld,fad,idx,zAH,bin_mul,zAR,Nat.zero_add,Nat.add_zero,Option.some.injEq,exists_eq_left',Nat.reduceAdd,Nat.mul_one,true_and,tk3,zBJ,eo22,hn,s2,s11,s12,s13,hwi,hwm,hwa,hr,c2,hcl,zAQ htN]
      refine ⟨_,_,zBQ rfl (fx_ok (by rfl) (by simp only [zAY,zAU,zAT,sp_n,Nat.reduceLT,ne_eq,Nat.reduceEqDiff,zNf,fx,str,zAR,zOi,tk3,hn,v1]; rfl)),?_⟩
      (repeat (first | refine Rn.seq hc ?_ | refine Rn.skip hc ?_ | refine Rn.block hc ?_ | refine Rn.inBlock hc ?_ | refine Rn.scope hc ?_ | refine Rn.inScope hc ?_))
      obtain ⟨c',t',f',g',e',t1,t2,_⟩ := v2.at'
      have lD' : Canon.look (bump D 19).objs bS = _ := lD
      rw [lD'] at t1
      cases t1
      have hbk : Nx D.next D (bump D 19) := Nx.bump (Nx.refl hD.wf _) 19
      refine Rn.reg hc rfl ?_
      simp only [zAY,zAS,zAU,zAT,sp_n,Nat.reduceLT,ne_eq,Nat.reduceEqDiff,zNf,gd,zAX,rops,fx,zAH,zOi,zEl,hn,s49,zBZ (show j < 9223372036854775807 by omega)]
      (repeat (first | refine Rn.seq hc ?_ | refine Rn.skip hc ?_ | refine Rn.block hc ?_ | refine Rn.inBlock hc ?_ | refine Rn.scope hc ?_ | refine Rn.inScope hc ?_))
      refine ih2 _ _ _ (by omega) ⟨j + 1,_,by omega,rfl,(hD.trans (hbk.le nD)).trans (v2.nx hbk.wf (Nat.le_of_eq hbS.symm)),by rw [Array.size_setIfInBounds]; exact hcs,t2,fun t ht => ?_,by simp only [sp_n,hn],by simp only [zAT,ne_eq,Nat.reduceEqDiff,zNf,s2],by simp only [zAT,ne_eq,Nat.reduceEqDiff,zNf,s4],by simp only [zAT,ne_eq,Nat.reduceEqDiff,zNf,s7],by simp only [zAT,ne_eq,Nat.reduceEqDiff,zNf,s8],by simp only [zAT,ne_eq,Nat.reduceEqDiff,zNf,s10],by simp only [zAT,ne_eq,Nat.reduceEqDiff,zNf,s11],by simp only [zAT,ne_eq,Nat.reduceEqDiff,zNf,s12],by simp only [zAT,ne_eq,Nat.reduceEqDiff,zNf,s13],by simp only [zAT,ne_eq,Nat.reduceEqDiff,zNf,s40],by simp only [zAT,ne_eq,Nat.reduceEqDiff,zNf,s41],by simp only [zAT,ne_eq,Nat.reduceEqDiff,zNf,s42],by simp only [zAT,ne_eq,Nat.reduceEqDiff,zNf,s47],by simp only [zAT,ne_eq,Nat.reduceEqDiff,zNf,s48],by simp only [zAU,sp_n,Nat.reduceLT,hn]⟩
      rw [Array.getElem?_setIfInBounds]
      by_cases htj : i + j = t
      · rw [if_pos htj,if_pos (by omega),if_pos (by omega),htj]
      · rw [if_neg htj,hcv t ht]
        by_cases h1 : i ≤ t ∧ t < i + j
        · rw [if_pos h1,if_pos (by omega)]
        · rw [if_neg h1,if_neg (by omega)]
    · have hd : decide ((j : Int) < (Ly : Int)) = false := decide_eq_false (by omega)
      have hjl : j = Ly := by omega
      subst hjl
      clear ih2
      refine Rn.reg hc rfl ?_
      simp only [zAY,gd,zAX,rops,fx,zAN,zOi,zEl,s48,s49,hd]
      (repeat (first | refine Rn.seq hc ?_ | refine Rn.skip hc ?_ | refine Rn.block hc ?_ | refine Rn.inBlock hc ?_ | refine Rn.scope hc ?_ | refine Rn.inScope hc ?_))
      refine Rn.zAM hc rfl ?_
      simp only [zAY,zAU,Nat.reduceLT,Value.bool.injEq,zEl,hn]
      (repeat (first | refine Rn.seq hc ?_ | refine Rn.skip hc ?_ | refine Rn.block hc ?_ | refine Rn.inBlock hc ?_ | refine Rn.scope hc ?_ | refine Rn.inScope hc ?_))
      refine Rn.exit hc rfl ?_
      (repeat (first | refine Rn.seq hc ?_ | refine Rn.skip hc ?_ | refine Rn.block hc ?_ | refine Rn.inBlock hc ?_ | refine Rn.scope hc ?_ | refine Rn.inScope hc ?_))
      refine Rn.reg hc rfl ?_
      simp only [zAY,zAS,zAU,zAT,sp_n,Nat.reduceLT,ne_eq,Nat.reduceEqDiff,zNf,gd,zAX,rops,fx,zAH,zOi,zEl,hn,s42,zBZ (show i < 9223372036854775807 by omega)]
      (repeat (first | refine Rn.seq hc ?_ | refine Rn.skip hc ?_ | refine Rn.block hc ?_ | refine Rn.inBlock hc ?_ | refine Rn.scope hc ?_ | refine Rn.inScope hc ?_))
      refine ih _ _ _ (by omega) ⟨i + 1,c,by omega,rfl,hD,hcs,lD,fun t ht => ?_,by simp only [sp_n,hn],by simp only [zAT,ne_eq,Nat.reduceEqDiff,zNf,s2],by simp only [zAT,ne_eq,Nat.reduceEqDiff,zNf,s4],by simp only [zAT,ne_eq,Nat.reduceEqDiff,zNf,s7],by simp only [zAT,ne_eq,Nat.reduceEqDiff,zNf,s8],by simp only [zAT,ne_eq,Nat.reduceEqDiff,zNf,s10],by simp only [zAT,ne_eq,Nat.reduceEqDiff,zNf,s11],by simp only [zAT,ne_eq,Nat.reduceEqDiff,zNf,s40],by simp only [zAT,ne_eq,Nat.reduceEqDiff,zNf,s41],by simp only [zAU,sp_n,Nat.reduceLT,hn]⟩
      rw [hcv t ht]
      by_cases h1 : i ≤ t ∧ t < i + j
      · rw [if_pos h1]
      · rw [if_neg h1,rwS_out q0 (by omega)]
  · have hd : decide ((i : Int) < (Lx : Int)) = false := decide_eq_false (by omega)
    have hil : i = Lx := by omega
    subst hil
    clear ih
    refine Rn.reg hc rfl ?_
    simp only [zAY,gd,zAX,rops,fx,zAN,zOi,zEl,s41,s42,hd]
    (repeat (first | refine Rn.seq hc ?_ | refine Rn.skip hc ?_ | refine Rn.block hc ?_ | refine Rn.inBlock hc ?_ | refine Rn.scope hc ?_ | refine Rn.inScope hc ?_))
    refine Rn.zAM hc rfl ?_
    simp only [zAY,zAU,Nat.reduceLT,Value.bool.injEq,zEl,hn]
    (repeat (first | refine Rn.seq hc ?_ | refine Rn.skip hc ?_ | refine Rn.block hc ?_ | refine Rn.inBlock hc ?_ | refine Rn.scope hc ?_ | refine Rn.inScope hc ?_))
    refine Rn.exit hc rfl ?_
    have hcf : ∀ n,N ≤ n → conv (m : Int) p q n = 0 := fun n hn => by
      unfold conv
      rw [cvA_zero p0 q0 (by omega),Int.zero_emod]
    exact cr_one (hA.trans (hD.le nB)) ((hD.keep _ hRB).trans lR) hR (by omega) ((hD.cl l2 0).trans h2) (by omega) (h7.nx hD) (h8.nx hD) lD (f := conv (m : Int) p q) (fun t ht => by rw [hcv t ht,rwS_all p0]; rfl)
      ⟨by omega,fun n hn => by rw [hcf _ (by omega),hcf _ hn]⟩ (hcf N (Nat.le_refl _)) hm (by omega) (by omega) (fun n => ⟨Int.emod_nonneg _ (by omega),Int.emod_lt_of_pos _ (by omega)⟩) hxr hy (by simp only [sp_n,hn]) (by simp only [zAT,ne_eq,Nat.reduceEqDiff,zNf,s2]) (by simp only [zAT,ne_eq,Nat.reduceEqDiff,zNf,s4]) (by simp only [zAT,ne_eq,Nat.reduceEqDiff,zNf,s7]) (by simp only [zAT,ne_eq,Nat.reduceEqDiff,zNf,s8]) (by simp only [zAT,ne_eq,Nat.reduceEqDiff,zNf,s11])
end Go.Proofs.Ytdaljohmfnfgiaa
namespace Go.Proofs.Ytdaljohmfnfgiaa
open Go Go.RowKit Go.Proofs.Ytdaljohmfnfgiaa.Canon
set_option maxRecDepth 20000
theorem las_uniq {A : AHeap} {x y : Las} (hx : x.ok A) (hy : y.ok A) (e : [x.v] = [y.v]) : x = y := by
  obtain ⟨m,sa,sc,st,ra,rc,ro⟩ := x
  obtain ⟨m',sa',sc',st',ra',rc',ro'⟩ := y
  unfold Las.v at e
  simp only [List.cons.injEq,Value.agg.injEq,Array.mk.injEq,Value.int.injEq,Value.slice.injEq,true_and,and_true] at e
  obtain ⟨rfl,⟨rfl,e1,rfl⟩,rfl,e2,rfl⟩ := e
  have h1 := ints_uniq hx.1 hy.1 e1
  have h2 := ints_uniq hx.2.1 hy.2.1 e2
  simp only at h1 h2
  subst h1 h2
  rfl
def smU : Canon.Spec := fun _ xs A v A1 => Nx A.next A A1 ∧ ∀ x : Las,xs = [x.v] → x.ok A → SmlQ x.m x.s A v A1
def whU : Canon.Spec := fun _ xs A v A1 => Nx A.next A A1 ∧ ∀ x : Las,xs = [x.v] → x.ok A → ∃ a,v = .slice a (x.st.length + x.ro.length) (x.st.length + x.ro.length) ∧ Ints A1 a A.next A1.next (redS (dfE x.m x.s x.ro.length) (x.st.length + x.ro.length))
theorem small_U {A : AHeap} (hw : WF A) {x : Las} (hox : x.ok A) (ls : x.st.length ≤ 60) (lr : x.ro.length ≤ 120) (hro : 0 < x.ro.length) (hsl : Sl A x.ra 0) (hrc : x.ro.length ≤ x.rc) : Con Try.prog 83 [x.v] A (smU 83 [x.v] A) :=
  Con.mono (small_ref hw (m := x.m) (sc := x.sc) hox.1 hox.2.1 (by omega) (by omega) hro hsl hrc) fun v A1 ⟨a,p,h1,_,_,h4,h5⟩ => ⟨h4,fun x' e h' => by
    cases las_uniq hox h' e
    exact ⟨a,p,h1,h4,h5⟩⟩
theorem whole_U {A : AHeap} (hw : WF A) {x : Las} (hox : x.ok A) (hm : 2 ≤ x.m ∧ x.m ≤ 65521) (xl : ∀ n,0 ≤ x.s n ∧ x.s n < x.m) (hx0 : x.st.length ≤ 60) (hxr : 1 ≤ x.ro.length ∧ x.ro.length ≤ 120) : Con Try.prog 94 [x.v] A (whU 94 [x.v] A) :=
  Con.mono (whole_ref hw hox hm xl hx0 hxr) fun v A1 ⟨a,h1,h2,h3⟩ => ⟨h2,fun x' e h' => by
    cases las_uniq hox h' e
    exact ⟨a,h1,h3⟩⟩
theorem convolve_ref {A : AHeap} (hw : WF A) {x y : Las} (hox : x.ok A) (hoy : y.ok A) (hsx : 0 < x.ro.length → Sl A x.ra 0) (hsy : 0 < y.ro.length → Sl A y.ra 0) (hcx : x.ro.length ≤ x.rc) (hcy : y.ro.length ≤ y.rc) :
    Con Try.prog 50 [x.v,y.v] A (TldR A (errs [x,y] [x,y]) x.m (conv x.m x.s y.s)) := by
  refine zAF hc Try.func50 rfl (Nat.le_of_ble_eq_true rfl) ?_
  obtain ⟨A1,e1,hx1,hn1,b0,b1,b2⟩ := box3 hw (.int .i64 x.m) (.slice x.sa x.st.length x.sc) (.slice x.ra x.ro.length x.rc) 24
  obtain ⟨A2,e2,hx2,hn2,c0,c1,c2⟩ := box3 hx1.wf (.int .i64 y.m) (.slice y.sa y.st.length y.sc) (.slice y.ra y.ro.length y.rc) 24
  have hx02 : Nx A.next A A2 := hx1.trans (hx2.le hx1.next)
  have hxr : Nx A2.next A2 (A2.push (.cells #[.int .i64 0,.slice none 0 0,.slice none 0 0] 24)) := (Nx.refl hx2.wf _).push (Nat.le_refl _) _
  have lr := zAI A2 (.cells #[.int .i64 0,.slice none 0 0,.slice none 0 0] 24)
  have hnr : (A2.push (.cells #[.int .i64 0,.slice none 0 0,.slice none 0 0] 24)).next = A2.next + 1 := rfl
  generalize er : A2.push (.cells #[.int .i64 0,.slice none 0 0,.slice none 0 0] 24) = Ar at hxr lr hnr
  have hx0r : Nx A.next A Ar := hx02.trans (hxr.le hx02.next)
  have hX1 : Hs A1 A.next x := { c0 := b0,c1 := b1,c2 := b2,ok := hox.nx hx1,lt := by omega }
  have hXr : Hs Ar A.next x := (hX1.nx hx2).nx hxr
  have hYr : Hs Ar A1.next y := ({ c0 := c0,c1 := c1,c2 := c2,ok := hoy.nx hx02,lt := by omega } : Hs A2 A1.next y).nx hxr
  clear b0 b1 b2 c0 c1 c2
  have b0 := hXr.c0
  have b1 := hXr.c1
  have b2 := hXr.c2
  have c0 := hYr.c0
  have c1 := hYr.c1
  have c2 := hYr.c2
  rw [s_in2]
  unfold Las.v
  (repeat (first | refine Rn.seq hc ?_ | refine Rn.skip hc ?_ | refine Rn.block hc ?_ | refine Rn.inBlock hc ?_ | refine Rn.scope hc ?_ | refine Rn.inScope hc ?_))
  refine Rn.reg hc rfl ?_
  simp only [zAY,zAS,zAU,zAT,sp_n,Nat.reduceLT,ne_eq,Nat.reduceEqDiff,zNf,gd,zAX,rops,fx,zOi,zEl,Value.cells,show Try.f50.ntmps = 105 from rfl,e1,e2,ze24,er]
  (repeat (first | refine Rn.seq hc ?_ | refine Rn.skip hc ?_ | refine Rn.block hc ?_ | refine Rn.inBlock hc ?_ | refine Rn.scope hc ?_ | refine Rn.inScope hc ?_))
  refine Rn.region hc fun K hK => ?_
  refine Wo.run hc 2 rfl rfl rfl ?_
  simp (maxSteps := 2000000) only [List.drop_zero,List.take_succ_cons,List.take_zero,zAY,zAU,zAT,sp_n,Nat.reduceLT,ne_eq,Nat.reduceEqDiff,not_false_eq_true,gd,zAX,rops,fx,ld,zAR,cls,Nat.zero_add,Option.some.injEq,exists_eq_left',Nat.reduceAdd,tk24,b0,b1,b2,c0,c1,c2]
  refine Wo.call hc (by rfl) (by rfl) ⟨by rfl,by rfl⟩ (xs := [x.v,y.v]) (by rfl) (by rfl) (by simp only [zAY,zAU,zAT,sp_n,Nat.reduceLT,ne_eq,Nat.reduceEqDiff,zNf,List.map_cons,List.map_nil,List.nil_append,List.append_nil]; rfl) (Con.mono (both_ref hx0r.wf hXr.ok hYr.ok) ?_)
  rintro w A4 ⟨rfl,hx4⟩
  refine Wo.run hc 1 rfl rfl rfl ?_
  simp (maxSteps := 2000000) only [List.drop_zero,List.drop_succ_cons,List.take_succ_cons,List.take_zero,zAY,zAU,sp_n,Nat.reduceLT,gd,zAX,rops,fx,Option.some.injEq,exists_eq_left',Nat.reduceAdd]
  refine Wo.done hc rfl (hK _ _ ?_)
  clear hK
  (repeat (first | refine Rn.seq hc ?_ | refine Rn.skip hc ?_ | refine Rn.block hc ?_ | refine Rn.inBlock hc ?_ | refine Rn.scope hc ?_ | refine Rn.inScope hc ?_))
  have hx04 : Nx A.next A A4 := hx0r.trans (hx4.le hx0r.next)
  have n4 := hx4.next
  have hX := hXr.nx hx4
  have hY := hYr.nx hx4
  have l4 : Canon.look A4.objs A2.next = _ := (hx4.keep _ (by omega)).trans lr
  by_cases he : errs [x,y] [x,y] = 0
  · have hd : (!decide (errs [x,y] [x,y] = 0)) = false := by rw [decide_eq_true he]; rfl
    obtain ⟨ex,ey,exy⟩ := errs_two0 he
    obtain ⟨m1,m2,m3⟩ := err_len ex
    obtain ⟨k1,k2,k3⟩ := err_len ey
    obtain ⟨mx,lx⟩ := err_lim ex
    obtain ⟨my,ly⟩ := err_lim ey
    obtain ⟨mn,hmn⟩ : ∃ k : Nat,x.m = (k : Int) := ⟨x.m.toNat,by omega⟩
    refine Rn.reg hc rfl ?_
    simp only [zAY,zAS,zAU,sp_n,Nat.reduceLT,gd,zAX,rops,fx,zBX,zOi,zEl,hd]
    (repeat (first | refine Rn.seq hc ?_ | refine Rn.skip hc ?_ | refine Rn.block hc ?_ | refine Rn.inBlock hc ?_ | refine Rn.scope hc ?_ | refine Rn.inScope hc ?_))
    refine Rn.zAM hc rfl ?_
    simp only [zAY,zAU,sp_n,Nat.reduceLT,Value.bool.injEq,zEl]
    (repeat (first | refine Rn.seq hc ?_ | refine Rn.skip hc ?_ | refine Rn.block hc ?_ | refine Rn.inBlock hc ?_ | refine Rn.scope hc ?_ | refine Rn.inScope hc ?_))
    rw [he]
    refine Rn.slots (I := fun s => s.n = 105 ∧ sget s 2 = .pointer (some ⟨A.next,0,none⟩) ∧ sget s 3 = .pointer (some ⟨A1.next,0,none⟩) ∧ sget s 4 = .pointer (some ⟨A2.next,0,none⟩))
      ⟨by simp only [sp_n],by simp only [zAU,zAT,sp_n,Nat.reduceLT,ne_eq,Nat.reduceEqDiff,zNf],by simp only [zAU,zAT,sp_n,Nat.reduceLT,ne_eq,Nat.reduceEqDiff,zNf],by simp only [zAU,zAT,sp_n,Nat.reduceLT,ne_eq,Nat.reduceEqDiff,zNf]⟩ ?_
    rintro s ⟨hn,s2,s3,s4⟩
    obtain ⟨B,hBd⟩ : ∃ B,B = A4 := ⟨_,rfl⟩
    rw [← hBd] at hX hY l4 hx04 n4 ⊢
    have hwB := hx04.wf
    have sx := (hsx m3).nx hw hx04
    have sy := (hsy k3).nx hw hx04
    obtain ⟨F,hFb,hF⟩ : ∃ F : AHeap → Prop,(∀ M,F M → ∀ b,b < B.next → ∀ o,cl M b o = cl B b o) ∧ (∀ M,Nx B.next B M → F M) := ⟨fun M => Nx B.next B M,fun M h b hb o => h.cl hb o,fun _ h => h⟩
    have G0 := fun M hM => (hFb M hM _ hX.lt 0).trans hX.c0
    have G1 := fun M hM => (hFb M hM _ hX.lt 1).trans hX.c1
    have G2 := fun M hM => (hFb M hM _ hX.lt 2).trans hX.c2
    have H0 := fun M hM => (hFb M hM _ hY.lt 0).trans hY.c0
    have H1 := fun M hM => (hFb M hM _ hY.lt 1).trans hY.c1
    have H2 := fun M hM => (hFb M hM _ hY.lt 2).trans hY.c2
    have hbk : Nx B.next B (bump B 8) := Nx.bump (Nx.refl hwB _) 8
    have FB := hF _ hbk
    refine Rn.drawnL hc hx smU F (E := [1,3,5,4,6]) (n := 7) (k := 8) (by kernel_rfl) (by kernel_rfl) (by rfl) (by kernel_rfl) ?_
    refine DrL.read (by first | rfl | kernel_rfl) (by rfl) (by assumption) (fun M hM => by simp only [zAY,fx,ld,zAR,cls,Nat.zero_add,Nat.reduceAdd,tk24,s2,G0 M hM,G1 M hM,G2 M hM] <;> rfl) (by rfl) (by first | exact VQ.int _ _ | exact VQ.bool _ | exact VQ.ptr _ _ | exact VQ.slice _ _ _ | exact VQ.func (by simp [zAW,zAV,zAZ]) (by simp [zAW,zAV,zAZ]) | exact VQ.agg (by simp [zAW,zAZ]) | exact VQ.tuple (by simp [zAW,zAV,zAZ])) ?_
    have o1 := hX.ok.nx hbk
    refine DrL.call (by kernel_rfl) (by rfl) (by assumption) (by rfl) (zAA (by rfl) ⟨by rfl,by rfl⟩ (by rfl) (xs := [x.v]) (by simp only [zAY,zAU,Nat.reduceLT,List.map_cons,List.map_nil,List.nil_append,List.append_nil,hn,Las.v]) (small_U hbk.wf o1 m1 m2 m3 (sx.nx hwB hbk) hcx)) ?_
    rintro v C1 ⟨k1',hv⟩
    obtain ⟨a,p,hr,-,xa,xc,xr,rfl,hac,i1,i2,-,-⟩ := hv x rfl o1
    have hC1 : Nx B.next B C1 := hbk.trans (k1'.le hbk.next)
    have F1 := hF _ hC1
    refine DrL.read (by first | rfl | kernel_rfl) (by rfl) (by assumption) (fun M hM => by simp only [zAY,zAT,ne_eq,Nat.reduceEqDiff,zNf,fx,ld,zAR,cls,Nat.zero_add,Nat.reduceAdd,tk24,s3,H0 M hM,H1 M hM,H2 M hM] <;> rfl) (by rfl) (by first | exact VQ.int _ _ | exact VQ.bool _ | exact VQ.ptr _ _ | exact VQ.slice _ _ _ | exact VQ.func (by simp [zAW,zAV,zAZ]) (by simp [zAW,zAV,zAZ]) | exact VQ.agg (by simp [zAW,zAZ]) | exact VQ.tuple (by simp [zAW,zAV,zAZ])) ?_
    have o2 := hY.ok.nx hC1
    refine DrL.call (by kernel_rfl) (by rfl) (by assumption) (by rfl) (zAA (by rfl) ⟨by rfl,by rfl⟩ (by rfl) (xs := [y.v]) (by simp only [zAY,zAU,sp_n,Nat.reduceLT,List.map_cons,List.map_nil,List.nil_append,List.append_nil,hn,Las.v]) (small_U hC1.wf o2 k1 k2 k3 (sy.nx hwB hC1) hcy)) ?_
    rintro v C2 ⟨k2',hv⟩
    obtain ⟨a',p',hr',-,ya,yc,yr,rfl,hac',i3,i4,-,-⟩ := hv y rfl o2
    have hC2 : Nx B.next B C2 := hC1.trans (k2'.le hC1.next)
    have F2 := hF _ hC2
    have hn1' := k1'.next
    rw [zAD] at hn1'
    have hn2' := k2'.next
    refine DrL.float (by rfl) (by rfl) (by rfl) fbal24 ?_
    refine DrL.float (by rfl) (by rfl) (by rfl) fbal24 ?_
    have hk12 : ∀ b,b < B.next + 8 → Canon.look C2.objs b = Canon.look B.objs b := fun b hb => by
      rw [k2'.keep _ (by omega),k1'.keep _ (by rw [zAD]; omega)]
      rfl
    have hnb5 : Canon.look C2.objs (B.next + 5) = none := by rw [hk12 _ (by omega)]; exact hwB.none (by omega)
    obtain ⟨C3,p3,w3,n3,l3,kp3⟩ := place_al k2'.wf (b := B.next + 5) (by omega) hnb5 [.int .i64 0,.slice none 0 0,.slice none 0 0] 24
    have hC3 : Nx B.next B C3 := ⟨by omega,w3,fun b hb => by rw [kp3 _ (by omega),hk12 _ (by omega)]⟩
    have F3 := hF _ hC3
    have hnb4 : Canon.look C3.objs (B.next + 4) = none := by rw [kp3 _ (by omega),hk12 _ (by omega)]; exact hwB.none (by omega)
    obtain ⟨C4,p4,w4,n4',l4',kp4⟩ := place_al w3 (b := B.next + 4) (by omega) hnb4 [.int .i64 0,.slice none 0 0,.slice none 0 0] 24
    have hC4 : Nx B.next B C4 := ⟨by omega,w4,fun b hb => by rw [kp4 _ (by omega)]; exact hC3.keep _ hb⟩
    have F4 := hF _ hC4
    obtain ⟨C5,c5,q1,q2,q3,q4⟩ := zCV (l := [.int .i64 x.m,.slice xa a xc,.slice xr p p]) (o := 0) l4' rfl (by simp) rfl
    have n5 := q2.next
    have hC5 : Nx B.next B C5 := ⟨by omega,(q2.nx w4 (Nat.zero_le _)).wf,fun b hb => by rw [q2.off _ (by omega)]; exact hC4.keep _ hb⟩
    have F5 := hF _ hC5
    refine DrL.eff (by rfl) (by rfl) (pd1 := [(5,⟨[.int .i64 0,.slice none 0 0,.slice none 0 0],24,.ptr⟩),(4,⟨[.int .i64 0,.slice none 0 0,.slice none 0 0],24,.ptr⟩)]) (pd2 := []) (by kernel_rfl) (by kernel_rfl) (ms0 := [C2,C3]) (A0 := C4) (by simp only [zBU,p3,p4]) (fun M hM => by
        rcases List.mem_cons.1 hM with rfl | hM
        · exact F2
        · rw [List.mem_singleton] at hM; rw [hM]; exact F3) F4 (by rfl)
      (v := undef) (A1 := C5) (zBQ rfl (fx_ok (by rfl) (by simp only [zAY,zAU,zAT,sp_n,Nat.reduceLT,ne_eq,Nat.reduceEqDiff,zNf,fx,str,zAR,Nat.zero_add,Nat.reduceAdd,tk24,hn,FK.val,q1,List.size_toArray,List.length_cons,List.length_nil,Nat.beq_refl]))) ?_
    have l5 : Canon.look C5.objs (B.next + 5) = _ := (q2.off _ (by omega)).trans ((kp4 _ (by omega)).trans l3)
    obtain ⟨C6,c6,r1,r2,r3,r4⟩ := zCV (l := [.int .i64 y.m,.slice ya a' yc,.slice yr p' p']) (o := 0) l5 rfl (by simp) rfl
    have hn6 := r2.next
    refine DrL.eff (by rfl) (by rfl) (pd1 := []) (pd2 := []) (by kernel_rfl) (by kernel_rfl) (ms0 := []) (A0 := C5) rfl (fun _ h => by cases h) F5 (by rfl)
      (v := undef) (A1 := C6) (zBQ rfl (fx_ok (by rfl) (by simp only [zAY,zAU,zAT,sp_n,zAK,Nat.reduceLT,ne_eq,Nat.reduceEqDiff,zNf,fx,str,zAR,Nat.zero_add,Nat.reduceAdd,tk24,hn,FK.val,r1,List.size_toArray,List.length_cons,List.length_nil,Nat.beq_refl]))) ?_
    refine DrL.nil ⟨by rfl,C6,by rfl,?_⟩
    have hC6 : Nx B.next B C6 := ⟨by omega,(r2.nx hC5.wf (Nat.zero_le _)).wf,fun b hb => by rw [r2.off _ (by omega)]; exact hC5.keep _ hb⟩
    have hoff : ∀ b,b ≠ B.next + 4 → b ≠ B.next + 5 → Canon.look C6.objs b = Canon.look C2.objs b := fun b h4 h5 => by rw [r2.off _ h5,q2.off _ h4,kp4 _ h4,kp3 _ h5]
    have hext2 : ∀ b,(0 : Nat) ≤ b → Canon.look C2.objs b = none ∨ Canon.look C6.objs b = Canon.look C2.objs b := fun b _ => by
      by_cases h4 : b = B.next + 4
      · exact .inl (by rw [h4,hk12 _ (by omega)]; exact hwB.none (by omega))
      · by_cases h5 : b = B.next + 5
        · exact .inl (h5 ▸ hnb5)
        · exact .inr (hoff b h4 h5)
    have hext1 : ∀ b,(0 : Nat) ≤ b → Canon.look C1.objs b = none ∨ Canon.look C6.objs b = Canon.look C1.objs b := fun b hb => by
      by_cases hlt : b < C1.next
      · rcases hext2 b hb with h | h
        · rw [k2'.keep _ hlt] at h; exact .inl h
        · exact .inr (h.trans (k2'.keep _ hlt))
      · exact .inl (k1'.wf.none (by omega))
    have g0 : cl C6 (B.next + 4) 0 = some (.int .i64 x.m) := by rw [zBW (r2.off _ (by omega)),q2.cl,q4]; rfl
    have g1 : cl C6 (B.next + 4) 1 = some (.slice xa a xc) := by rw [zBW (r2.off _ (by omega)),q2.cl,q4]; rfl
    have g2 : cl C6 (B.next + 4) 2 = some (.slice xr p p) := by rw [zBW (r2.off _ (by omega)),q2.cl,q4]; rfl
    have f0 : cl C6 (B.next + 5) 0 = some (.int .i64 y.m) := by rw [r2.cl,r4]; rfl
    have f1 : cl C6 (B.next + 5) 1 = some (.slice ya a' yc) := by rw [r2.cl,r4]; rfl
    have f2 : cl C6 (B.next + 5) 2 = some (.slice yr p' p') := by rw [r2.cl,r4]; rfl
    have ha := hr.low (atL_per m3)
    have hp := hr.minP _ _ (atL_per m3)
    have hp0 := hr.per.pos
    have ha' := hr'.low (atL_per k3)
    have hp' := hr'.minP _ _ (atL_per k3)
    have hp0' := hr'.per.pos
    obtain ⟨x',hx'⟩ : ∃ x' : Las,x' = ⟨x.m,xa,xc,redS x.s a,xr,p,redR x.s a p⟩ := ⟨_,rfl⟩
    have xm : x'.m = x.m := by rw [hx']
    have xs : x'.s = x.s := by rw [hx']; exact zCC hr.per
    have xst : x'.st.length = a := by rw [hx']; exact zAL _ _
    have xro : x'.ro.length = p := by rw [hx']; exact zAG _ _ _
    obtain ⟨y',hy'⟩ : ∃ y' : Las,y' = ⟨y.m,ya,yc,redS y.s a',yr,p',redR y.s a' p'⟩ := ⟨_,rfl⟩
    have ym : y'.m = x.m := by rw [hy',exy]
    have ys : y'.s = y.s := by rw [hy']; exact zCC hr'.per
    have yst : y'.st.length = a' := by rw [hy']; exact zAL _ _
    have yro : y'.ro.length = p' := by rw [hy']; exact zAG _ _ _
    have h7 : Hs C6 (B.next + 4) x' := { c0 := by rw [xm]; exact g0,c1 := by rw [xst,hx']; exact g1,c2 := by rw [xro,hx']; exact g2,ok := ⟨by rw [hx']; exact (i1.mono (Nat.zero_le _) (Nat.le_refl _)).ext hext1 (by omega),by rw [hx']; exact (i2.mono (Nat.zero_le _) (Nat.le_refl _)).ext hext1 (by omega),by omega,by omega⟩,lt := by omega }
    have h8 : Hs C6 (B.next + 5) y' := { c0 := by rw [hy']; exact f0,c1 := by rw [yst,hy']; exact f1,c2 := by rw [yro,hy']; exact f2,ok := ⟨by rw [hy']; exact (i3.mono (Nat.zero_le _) (Nat.le_refl _)).ext hext2 (by omega),by rw [hy']; exact (i4.mono (Nat.zero_le _) (Nat.le_refl _)).ext hext2 (by omega),by omega,by omega⟩,lt := by omega }
    have hX6 := hX.nx hC6
    have l6 : Canon.look C6.objs A2.next = _ := (hC6.keep _ (by omega)).trans l4
    have hA6 : Nx A.next A C6 := hx04.trans (hC6.le hx04.next)
    have nC6 := hC6.next
    refine Rn.slots (I := fun s => s.n = 105 ∧ sget s 2 = .pointer (some ⟨A.next,0,none⟩) ∧ sget s 4 = .pointer (some ⟨A2.next,0,none⟩) ∧ sget s 7 = .pointer (some ⟨B.next + 4,0,none⟩) ∧ sget s 8 = .pointer (some ⟨B.next + 5,0,none⟩))
      ⟨by simp only [sp_n,zAK,hn],by simp only [zAT,zAK,ne_eq,Nat.reduceEqDiff,zNf,s2],by simp only [zAT,zAK,ne_eq,Nat.reduceEqDiff,zNf,s4],by simp only [zAU,zAT,sp_n,zAK,Nat.reduceLT,ne_eq,Nat.reduceEqDiff,zNf,hn]; rfl,by simp only [zAU,sp_n,zAK,Nat.reduceLT,hn]; rfl⟩ ?_
    clear hn s2 s3 s4 s
    rintro s ⟨hn,s2,s4,s7,s8⟩
    clear hFb hF F G0 G1 G2 H0 H1 H2 FB F1 F2 F3 F4 F5 i1 i2 i3 i4 g0 g1 g2 f0 f1 f2 q1 r1 p3 p4 hext1 hext2 hoff hk12
    have hwC := hC6.wf
    obtain ⟨F,hFb,hF⟩ : ∃ F : AHeap → Prop,(∀ M,F M → ∀ b,b < C6.next → ∀ o,cl M b o = cl C6 b o) ∧ (∀ M,Nx C6.next C6 M → F M) := ⟨fun M => Nx C6.next C6 M,fun M h b hb o => h.cl hb o,fun _ h => h⟩
    have G0 := fun M hM => (hFb M hM _ h7.lt 0).trans h7.c0
    have G1 := fun M hM => (hFb M hM _ h7.lt 1).trans h7.c1
    have G2 := fun M hM => (hFb M hM _ h7.lt 2).trans h7.c2
    have H0 := fun M hM => (hFb M hM _ h8.lt 0).trans h8.c0
    have H1 := fun M hM => (hFb M hM _ h8.lt 1).trans h8.c1
    have H2 := fun M hM => (hFb M hM _ h8.lt 2).trans h8.c2
    have hbk : Nx C6.next C6 (bump C6 6) := Nx.bump (Nx.refl hwC _) 6
    have FB := hF _ hbk
    have o7 := h7.ok.nx hbk
    refine Rn.seq hc ?_
    refine Rn.drawnF hc hx whU F (n := 2) (k := 6) (by kernel_rfl) (by kernel_rfl) (by rfl) ?_
    refine Dr.read (by first | rfl | kernel_rfl) (by rfl) (by assumption) (fun M hM => by simp only [zAY,fx,ld,zAR,cls,Nat.zero_add,Nat.reduceAdd,tk24,s7,G0 M hM,G1 M hM,G2 M hM] <;> rfl) (by rfl) (by first | exact VQ.int _ _ | exact VQ.bool _ | exact VQ.ptr _ _ | exact VQ.slice _ _ _ | exact VQ.func (by simp [zAW,zAV,zAZ]) (by simp [zAW,zAV,zAZ]) | exact VQ.agg (by simp [zAW,zAZ]) | exact VQ.tuple (by simp [zAW,zAV,zAZ])) ?_
    refine Dr.call (by kernel_rfl) (by rfl) (by assumption) (by rfl) (zAA (by rfl) ⟨by rfl,by rfl⟩ (by rfl) (xs := [x'.v]) (by simp only [zAY,zAU,Nat.reduceLT,List.map_cons,List.map_nil,List.nil_append,List.append_nil,hn,Las.v]) (whole_U hbk.wf o7 (by rw [xm]; exact mx) (fun n => by rw [xs,xm]; exact lx n) (by omega) (by omega))) ?_
    rintro v D1 ⟨k1',hv⟩
    obtain ⟨ap,rfl,ip⟩ := hv x' rfl o7
    have hD1 : Nx C6.next C6 D1 := hbk.trans (k1'.le hbk.next)
    have F1 := hF _ hD1
    have o8 := h8.ok.nx hD1
    refine Dr.read (by first | rfl | kernel_rfl) (by rfl) (by assumption) (fun M hM => by simp only [zAY,zAT,ne_eq,Nat.reduceEqDiff,zNf,fx,ld,zAR,cls,Nat.zero_add,Nat.reduceAdd,tk24,s8,H0 M hM,H1 M hM,H2 M hM] <;> rfl) (by rfl) (by first | exact VQ.int _ _ | exact VQ.bool _ | exact VQ.ptr _ _ | exact VQ.slice _ _ _ | exact VQ.func (by simp [zAW,zAV,zAZ]) (by simp [zAW,zAV,zAZ]) | exact VQ.agg (by simp [zAW,zAZ]) | exact VQ.tuple (by simp [zAW,zAV,zAZ])) ?_
    refine Dr.call (by kernel_rfl) (by rfl) (by assumption) (by rfl) (zAA (by rfl) ⟨by rfl,by rfl⟩ (by rfl) (xs := [y'.v]) (by simp only [zAY,zAU,sp_n,Nat.reduceLT,List.map_cons,List.map_nil,List.nil_append,List.append_nil,hn,Las.v]) (whole_U hD1.wf o8 (by rw [ym]; exact mx) (fun n => by rw [ys,ym,exy]; exact ly n) (by omega) (by omega))) ?_
    rintro v D2 ⟨k2',hv⟩
    obtain ⟨aq,rfl,iq⟩ := hv y' rfl o8
    have hD2 : Nx C6.next C6 D2 := hD1.trans (k2'.le hD1.next)
    have F2 := hF _ hD2
    refine Dr.read (by first | rfl | kernel_rfl) (by rfl) (by assumption) (fun M hM => by simp only [zAY,zAU,zAT,sp_n,Nat.reduceLT,ne_eq,Nat.reduceEqDiff,zNf,fx,hn] <;> rfl) (by rfl) (by first | exact VQ.int _ _ | exact VQ.bool _ | exact VQ.ptr _ _ | exact VQ.slice _ _ _ | exact VQ.func (by simp [zAW,zAV,zAZ]) (by simp [zAW,zAV,zAZ]) | exact VQ.agg (by simp [zAW,zAV,zAZ]) | exact VQ.tuple (by simp [zAW,zAV,zAZ])) ?_
    refine Dr.read (by first | rfl | kernel_rfl) (by rfl) (by assumption) (fun M hM => by simp only [zAY,zAU,zAT,sp_n,Nat.reduceLT,ne_eq,Nat.reduceEqDiff,zNf,fx,hn] <;> rfl) (by rfl) (by first | exact VQ.int _ _ | exact VQ.bool _ | exact VQ.ptr _ _ | exact VQ.slice _ _ _ | exact VQ.func (by simp [zAW,zAV,zAZ]) (by simp [zAW,zAV,zAZ]) | exact VQ.agg (by simp [zAW,zAV,zAZ]) | exact VQ.tuple (by simp [zAW,zAV,zAZ])) ?_
    refine Dr.nil (by rfl) (fun M hM => by cases hM) F2 ⟨D2,by rfl,?_⟩
    have nD2 := hD2.next
    have px : Per x.s x'.st.length x'.ro.length := by rw [← xs]; exact atL_per (by omega)
    have py : Per y.s y'.st.length y'.ro.length := by rw [← ys]; exact atL_per (by omega)
    have key := fun s hn s2 s4 s7 s8 s9 s10 => cr_prod (hA6.trans (hD2.le hA6.next)) (bR := A2.next) (b2 := A.next) (b7 := B.next + 4) (b8 := B.next + 5) (m := mn) (x := x') (y := y') (p := dfE x.m x.s x'.ro.length) (q := dfE x.m y.s y'.ro.length) (Lx := x'.st.length + x'.ro.length) (Ly := y'.st.length + y'.ro.length) (ap := ap) (aq := aq) (s := s)
      ((hD2.keep _ (by omega)).trans l6) (by omega) (by omega) (by rw [← hmn]; exact ((hX6.nx hD2).c0)) (by omega) (h7.nx hD2) (h8.nx hD2)
      (by rw [xm,xs] at ip; exact (ip.nx k2' (Nat.le_refl _)).mono (Nat.zero_le _) k2'.next) (by rw [ym,ys] at iq; exact iq.mono (Nat.zero_le _) (Nat.le_refl _))
      (fun i => by rw [← hmn]; exact dfE_lim (by omega) lx _ i) (fun i => by rw [← hmn]; exact dfE_lim (by omega) (fun n => by rw [exy]; exact ly n) _ i) (fun i hi => dfE_stop px hi) (fun i hi => dfE_stop py hi) (by omega) (by omega) (by omega) (by omega) (by omega) hn s2 s4 s7 s8 s9 s10
    rw [← hmn,conv_twice px py] at key
    exact key _ (by simp only [sp_n,hn]) (by simp only [zAT,ne_eq,Nat.reduceEqDiff,zNf,s2]) (by simp only [zAT,ne_eq,Nat.reduceEqDiff,zNf,s4]) (by simp only [zAT,ne_eq,Nat.reduceEqDiff,zNf,s7]) (by simp only [zAT,ne_eq,Nat.reduceEqDiff,zNf,s8]) (by simp only [zAU,zAT,sp_n,Nat.reduceLT,ne_eq,Nat.reduceEqDiff,zNf,hn]) (by simp only [zAU,sp_n,Nat.reduceLT,hn])
  · have hd : (!decide (errs [x,y] [x,y] = 0)) = true := by rw [decide_eq_false he]; rfl
    obtain ⟨D,q1,g0,g1,g2,hxD⟩ := err_fin hx04 (by omega) (by omega) l4
    refine Rn.reg hc rfl ?_
    simp only [zAY,zAS,zAU,sp_n,Nat.reduceLT,gd,zAX,rops,fx,zBX,zOi,zEl,hd]
    (repeat (first | refine Rn.seq hc ?_ | refine Rn.skip hc ?_ | refine Rn.block hc ?_ | refine Rn.inBlock hc ?_ | refine Rn.scope hc ?_ | refine Rn.inScope hc ?_))
    refine Rn.zAM hc rfl ?_
    simp only [zAY,zAU,sp_n,Nat.reduceLT,Value.bool.injEq,zEl]
    (repeat (first | refine Rn.seq hc ?_ | refine Rn.skip hc ?_ | refine Rn.block hc ?_ | refine Rn.inBlock hc ?_ | refine Rn.scope hc ?_ | refine Rn.inScope hc ?_))
    refine Rn.reg hc rfl ?_
    simp only [zAY,zAU,zAT,sp_n,zAK,Nat.reduceLT,ne_eq,Nat.reduceEqDiff,zNf,gd,zAX,rops,fx,str,zAR,Nat.zero_add,zOi,zEl,Nat.reduceAdd,tk24,bd24_z,q1,List.size_toArray,List.length_cons,List.length_nil,Nat.beq_refl]
    (repeat (first | refine Rn.seq hc ?_ | refine Rn.skip hc ?_ | refine Rn.block hc ?_ | refine Rn.inBlock hc ?_ | refine Rn.scope hc ?_ | refine Rn.inScope hc ?_))
    refine Rn.ret (zCT rfl (v := .agg #[.int .i64 0,.slice none 0 0,.slice none 0 0]) ?_ ?_)
    · simp only [zAU,zAT,sp_n,Nat.reduceLT,ne_eq,Nat.reduceEqDiff,zNf,ld,zAR,cls,Nat.zero_add,Nat.reduceAdd,tk24,g0,g1,g2]
    · simp only [zAU,sp_n,Nat.reduceLT]
      exact tldR_err he hxD
end Go.Proofs.Ytdaljohmfnfgiaa
namespace Go.Proofs.Ytdaljohmfnfgiaa
open Go Go.RowKit Go.Proofs.Ytdaljohmfnfgiaa.Canon
set_option maxRecDepth 20000
end Go.Proofs.Ytdaljohmfnfgiaa
namespace Go.Proofs.Ytdaljohmfnfgiaa
open Go Go.RowKit Go.Proofs.Ytdaljohmfnfgiaa.Canon
set_option maxRecDepth 20000
structure Sp (lo hi : Nat) (D : AHeap) (b : Nat) (y : Las) : Prop where
  c0 : cl D b 0 = some (.int .i64 y.m)
  c1 : cl D b 1 = some (.slice y.sa y.st.length y.sc)
  c2 : cl D b 2 = some (.slice y.ra y.ro.length y.rc)
  lt : b < D.next
  hb : hi ≤ b
  ln : y.ro.length < 4611686018427387904
  w1 : Wrt D y.sa lo hi y.st.length
  w2 : Wrt D y.ra lo hi y.ro.length
theorem Pr.sp {lo hi : Nat} {D : AHeap} {b b' : Nat} {y y' : Las} (h : Pr lo hi D b b' y y') : Sp lo hi D b y := ⟨h.c0,h.c1,h.c2,h.lt,h.hb,h.ok.2.2.2,h.w1,h.w2⟩
theorem nx_off {C D E : AHeap} {lo hi : Nat} (h : Nx C.next C D) (k : Off lo hi D E) (hl : C.next ≤ lo) : Nx C.next C E :=
  ⟨Nat.le_trans h.next k.next,k.wf,fun b hb => (k.keep b (Nat.lt_of_lt_of_le hb h.next) (.inl (by omega))).trans (h.keep b hb)⟩
end Go.Proofs.Ytdaljohmfnfgiaa
namespace Go.Proofs.Ytdaljohmfnfgiaa
open Go Go.RowKit Go.Proofs.Ytdaljohmfnfgiaa.Canon
set_option maxRecDepth 20000
theorem convs_own {A B : AHeap} (hB : Nx A.next A B) {bX bY : Nat} {x y : Las} (hX : Has B bX x) (hY : Has B bY y) {s : Slots} (hn : s.n = 59) (s2 : sget s 2 = .pointer (some ⟨bX,0,none⟩)) (s3 : sget s 3 = .pointer (some ⟨bY,0,none⟩)) {Q : Post}
    (hk : ∀ s C bx by' x' y',Nx B.next B C → Has C bx x' → Has C by' y' → Tw x' x → Tw y' y → Sl C x'.sa 0 → Sl C y'.sa 0 → s.n = 59 → sget s 2 = .pointer (some ⟨bX,0,none⟩) → sget s 3 = .pointer (some ⟨bY,0,none⟩) → sget s 5 = .pointer (some ⟨bx,0,none⟩) → sget s 6 = .pointer (some ⟨by',0,none⟩) → Rn Try.prog 7 none [.code (restN 3 (Try.f7.body.getD .skip))] s [] C Q) :
    Rn Try.prog 7 none [.code (restN 2 (Try.f7.body.getD .skip))] s [] B Q := by
  refine Rn.seq hc ?_
  obtain ⟨F,hFb,hF⟩ : ∃ F : AHeap → Prop,(∀ M,F M → ∀ b,b < B.next → ∀ o,cl M b o = cl B b o) ∧ (∀ M,Nx B.next B M → F M) := ⟨fun M => Nx B.next B M,fun M h b hb o => h.cl hb o,fun _ h => h⟩
  have G0 := fun M hM => (hFb M hM _ hX.lt 0).trans hX.c0
  have G1 := fun M hM => (hFb M hM _ hX.lt 1).trans hX.c1
  have G2 := fun M hM => (hFb M hM _ hX.lt 2).trans hX.c2
  have H0 := fun M hM => (hFb M hM _ hY.lt 0).trans hY.c0
  have H1 := fun M hM => (hFb M hM _ hY.lt 1).trans hY.c1
  have H2 := fun M hM => (hFb M hM _ hY.lt 2).trans hY.c2
  have hbk : Nx B.next B (bump B 8) := Nx.bump (Nx.refl hB.wf _) 8
  have FB := hF _ hbk
  have ls := hX.ls
  have lr := hX.lr
  have ls' := hY.ls
  have lr' := hY.lr
  refine Rn.drawnL hc hx ownS F (E := [1,3,5,4,6]) (n := 7) (k := 8) (by kernel_rfl) (by kernel_rfl) (by rfl) (by kernel_rfl) ?_
  refine DrL.read (by first | rfl | kernel_rfl) (by rfl) (by assumption) (fun M hM => by simp only [zAY,fx,ld,zAR,cls,Nat.zero_add,Nat.reduceAdd,tk24,s2,G0 M hM,G1 M hM,G2 M hM] <;> rfl) (by rfl) (by first | exact VQ.int _ _ | exact VQ.bool _ | exact VQ.ptr _ _ | exact VQ.slice _ _ _ | exact VQ.func (by simp [zAW,zAV,zAZ]) (by simp [zAW,zAV,zAZ]) | exact VQ.agg (by simp [zAW,zAZ]) | exact VQ.tuple (by simp [zAW,zAV,zAZ])) ?_
  obtain ⟨o1,o2,_,_⟩ := hX.ok.nx hbk
  refine DrL.call (by kernel_rfl) (by rfl) (by assumption) (by rfl) (zAA (by rfl) ⟨by rfl,by rfl⟩ (by rfl) (xs := [x.v]) (by simp only [zAY,zAU,Nat.reduceLT,List.map_cons,List.map_nil,List.nil_append,List.append_nil,hn,Las.v]) (own_S hbk.wf o1 o2 (by omega) (by omega))) ?_
  rintro v C1 ⟨k1,hv⟩
  obtain ⟨xa,xc,xr,xd,rfl,hc1,hc2,i1,i2,y1,y2⟩ := hv _ _ _ _ _ _ _ rfl o1 o2
  have hC1 : Nx B.next B C1 := hbk.trans (k1.le hbk.next)
  have F1 := hF _ hC1
  refine DrL.read (by first | rfl | kernel_rfl) (by rfl) (by assumption) (fun M hM => by simp only [zAY,zAT,ne_eq,Nat.reduceEqDiff,zNf,fx,ld,zAR,cls,Nat.zero_add,Nat.reduceAdd,tk24,s3,H0 M hM,H1 M hM,H2 M hM] <;> rfl) (by rfl) (by first | exact VQ.int _ _ | exact VQ.bool _ | exact VQ.ptr _ _ | exact VQ.slice _ _ _ | exact VQ.func (by simp [zAW,zAV,zAZ]) (by simp [zAW,zAV,zAZ]) | exact VQ.agg (by simp [zAW,zAZ]) | exact VQ.tuple (by simp [zAW,zAV,zAZ])) ?_
  obtain ⟨p1,p2,_,_⟩ := hY.ok.nx hC1
  refine DrL.call (by kernel_rfl) (by rfl) (by assumption) (by rfl) (zAA (by rfl) ⟨by rfl,by rfl⟩ (by rfl) (xs := [y.v]) (by simp only [zAY,zAU,sp_n,Nat.reduceLT,List.map_cons,List.map_nil,List.nil_append,List.append_nil,hn,Las.v]) (own_S hC1.wf p1 p2 (by omega) (by omega))) ?_
  rintro v C2 ⟨k2,hv⟩
  obtain ⟨ya,yc,yr,yd,rfl,hc3,hc4,i3,i4,y3,y4⟩ := hv _ _ _ _ _ _ _ rfl p1 p2
  have hC2 : Nx B.next B C2 := hC1.trans (k2.le hC1.next)
  have F2 := hF _ hC2
  have hn1 := k1.next
  rw [zAD] at hn1
  have hn2 := k2.next
  refine DrL.float (by rfl) (by rfl) (by rfl) fbal24 ?_
  refine DrL.float (by rfl) (by rfl) (by rfl) fbal24 ?_
  have hk12 : ∀ b,b < B.next + 8 → Canon.look C2.objs b = Canon.look B.objs b := fun b hb => by
    rw [k2.keep _ (by omega),k1.keep _ (by rw [zAD]; omega)]
    rfl
  have hnb5 : Canon.look C2.objs (B.next + 5) = none := by rw [hk12 _ (by omega)]; exact hB.wf.none (by omega)
  obtain ⟨C3,p3,w3,n3,l3,kp3⟩ := place_al k2.wf (b := B.next + 5) (by omega) hnb5 [.int .i64 0,.slice none 0 0,.slice none 0 0] 24
  have hC3 : Nx B.next B C3 := ⟨by omega,w3,fun b hb => by rw [kp3 _ (by omega),hk12 _ (by omega)]⟩
  have F3 := hF _ hC3
  have hnb4 : Canon.look C3.objs (B.next + 4) = none := by rw [kp3 _ (by omega),hk12 _ (by omega)]; exact hB.wf.none (by omega)
  obtain ⟨C4,p4,w4,n4,l4,kp4⟩ := place_al w3 (b := B.next + 4) (by omega) hnb4 [.int .i64 0,.slice none 0 0,.slice none 0 0] 24
  have hC4 : Nx B.next B C4 := ⟨by omega,w4,fun b hb => by rw [kp4 _ (by omega)]; exact hC3.keep _ hb⟩
  have F4 := hF _ hC4
  obtain ⟨C5,c5,q1,q2,q3,q4⟩ := zCV (l := [.int .i64 x.m,.slice xa x.st.length xc,.slice xr x.ro.length xd]) (o := 0) l4 rfl (by simp) rfl
  have n5 := q2.next
  have hC5 : Nx B.next B C5 := ⟨by omega,(q2.nx w4 (Nat.zero_le _)).wf,fun b hb => by rw [q2.off _ (by omega)]; exact hC4.keep _ hb⟩
  have F5 := hF _ hC5
  refine DrL.eff (by rfl) (by rfl) (pd1 := [(5,⟨[.int .i64 0,.slice none 0 0,.slice none 0 0],24,.ptr⟩),(4,⟨[.int .i64 0,.slice none 0 0,.slice none 0 0],24,.ptr⟩)]) (pd2 := []) (by kernel_rfl) (by kernel_rfl) (ms0 := [C2,C3]) (A0 := C4) (by simp only [zBU,p3,p4]) (fun M hM => by
      rcases List.mem_cons.1 hM with rfl | hM
      · exact F2
      · rw [List.mem_singleton] at hM; rw [hM]; exact F3) F4 (by rfl)
    (v := undef) (A1 := C5) (zBQ rfl (fx_ok (by rfl) (by simp only [zAY,zAU,zAT,sp_n,Nat.reduceLT,ne_eq,Nat.reduceEqDiff,zNf,fx,str,zAR,Nat.zero_add,Nat.reduceAdd,tk24,hn,FK.val,q1,List.size_toArray,List.length_cons,List.length_nil,Nat.beq_refl]))) ?_
  have l5 : Canon.look C5.objs (B.next + 5) = _ := (q2.off _ (by omega)).trans ((kp4 _ (by omega)).trans l3)
  obtain ⟨C6,c6,r1,r2,r3,r4⟩ := zCV (l := [.int .i64 y.m,.slice ya y.st.length yc,.slice yr y.ro.length yd]) (o := 0) l5 rfl (by simp) rfl
  have hn6 := r2.next
  refine DrL.eff (by rfl) (by rfl) (pd1 := []) (pd2 := []) (by kernel_rfl) (by kernel_rfl) (ms0 := []) (A0 := C5) rfl (fun _ h => by cases h) F5 (by rfl)
    (v := undef) (A1 := C6) (zBQ rfl (fx_ok (by rfl) (by simp only [zAY,zAU,zAT,sp_n,zAK,Nat.reduceLT,ne_eq,Nat.reduceEqDiff,zNf,fx,str,zAR,Nat.zero_add,Nat.reduceAdd,tk24,hn,FK.val,r1,List.size_toArray,List.length_cons,List.length_nil,Nat.beq_refl]))) ?_
  refine DrL.nil ⟨by rfl,C6,by rfl,?_⟩
  have hC6 : Nx B.next B C6 := ⟨by omega,(r2.nx hC5.wf (Nat.zero_le _)).wf,fun b hb => by rw [r2.off _ (by omega)]; exact hC5.keep _ hb⟩
  have hoff : ∀ b,b ≠ B.next + 4 → b ≠ B.next + 5 → Canon.look C6.objs b = Canon.look C2.objs b := fun b h4 h5 => by rw [r2.off _ h5,q2.off _ h4,kp4 _ h4,kp3 _ h5]
  have hext2 : ∀ b,(0 : Nat) ≤ b → Canon.look C2.objs b = none ∨ Canon.look C6.objs b = Canon.look C2.objs b := fun b _ => by
    by_cases h4 : b = B.next + 4
    · exact .inl (by rw [h4,hk12 _ (by omega)]; exact hB.wf.none (by omega))
    · by_cases h5 : b = B.next + 5
      · exact .inl (h5 ▸ hnb5)
      · exact .inr (hoff b h4 h5)
  have hext1 : ∀ b,(0 : Nat) ≤ b → Canon.look C1.objs b = none ∨ Canon.look C6.objs b = Canon.look C1.objs b := fun b hb => by
    by_cases hlt : b < C1.next
    · rcases hext2 b hb with h | h
      · rw [k2.keep _ hlt] at h; exact .inl h
      · exact .inr (h.trans (k2.keep _ hlt))
    · exact .inl (k1.wf.none (by omega))
  have g0 : cl C6 (B.next + 4) 0 = some (.int .i64 x.m) := by rw [zBW (r2.off _ (by omega)),q2.cl,q4]; rfl
  have g1 : cl C6 (B.next + 4) 1 = some (.slice xa x.st.length xc) := by rw [zBW (r2.off _ (by omega)),q2.cl,q4]; rfl
  have g2 : cl C6 (B.next + 4) 2 = some (.slice xr x.ro.length xd) := by rw [zBW (r2.off _ (by omega)),q2.cl,q4]; rfl
  have f0 : cl C6 (B.next + 5) 0 = some (.int .i64 y.m) := by rw [r2.cl,r4]; rfl
  have f1 : cl C6 (B.next + 5) 1 = some (.slice ya y.st.length yc) := by rw [r2.cl,r4]; rfl
  have f2 : cl C6 (B.next + 5) 2 = some (.slice yr y.ro.length yd) := by rw [r2.cl,r4]; rfl
  have j1 := y1.ext hext1
  have j2 := y2.ext hext1
  have j3 := y3.ext hext2
  have j4 := y4.ext hext2
  refine hk _ C6 (B.next + 4) (B.next + 5) ⟨x.m,xa,xc,x.st,xr,xd,x.ro⟩ ⟨y.m,ya,yc,y.st,yr,yd,y.ro⟩ hC6
    { c0 := g0,c1 := g1,c2 := g2,ok := ⟨i1.ext hext1 (by omega),i2.ext hext1 (by omega),show x.st.length < _ by omega,show x.ro.length < _ by omega⟩,lt := by omega,ls := ls,lr := lr,cs := hc1,cr := hc2,s1 := fun _ => j1,s2 := fun _ => j2 }
    { c0 := f0,c1 := f1,c2 := f2,ok := ⟨i3.ext hext2 (by omega),i4.ext hext2 (by omega),show y.st.length < _ by omega,show y.ro.length < _ by omega⟩,lt := by omega,ls := ls',lr := lr',cs := hc3,cr := hc4,s1 := fun _ => j3,s2 := fun _ => j4 }
    ⟨rfl,rfl,rfl⟩ ⟨rfl,rfl,rfl⟩ j1 j3 (by simp only [sp_n,zAK,hn]) (by simp only [zAT,zAK,ne_eq,Nat.reduceEqDiff,zNf,s2]) (by simp only [zAT,zAK,ne_eq,Nat.reduceEqDiff,zNf,s3]) (by simp only [zAU,zAT,sp_n,zAK,Nat.reduceLT,ne_eq,Nat.reduceEqDiff,zNf,hn]; rfl) (by simp only [zAU,sp_n,zAK,Nat.reduceLT,hn]; rfl)
theorem convs_rest {A C : AHeap} (hA : Nx A.next A C) {bX bY bx by' : Nat} {x y x' y' : Las} (hX : Has C bX x) (hY : Has C bY y) (hx' : Has C bx x') (hy' : Has C by' y') (tx : Tw x' x) (ty : Tw y' y)
    {s : Slots} (hn : s.n = 59) (s2 : sget s 2 = .pointer (some ⟨bX,0,none⟩)) (s3 : sget s 3 = .pointer (some ⟨bY,0,none⟩)) (s5 : sget s 5 = .pointer (some ⟨bx,0,none⟩)) (s6 : sget s 6 = .pointer (some ⟨by',0,none⟩)) (sx : Sl C x'.sa 0) (sy : Sl C y'.sa 0) :
    Rn Try.prog 7 none [.code (restN 3 (Try.f7.body.getD .skip))] s [] C (endQ Try.prog Try.f7 (fun w A1 => w = .bool true ∧ Nx A.next A A1)) := by
  have hC : Nx A.next A C := hA
  have nC := hC.next
  have X0 := hx'.c0
  have X1 := hx'.c1
  have X2 := hx'.c2
  have Y0 := hy'.c0
  have Y1 := hy'.c1
  have Y2 := hy'.c2
  refine Rn.seq hc ?_
  refine Rn.region hc fun K hK => ?_
  refine Wo.run hc 2 rfl rfl rfl ?_
  simp (maxSteps := 2000000) only [List.drop_zero,List.take_succ_cons,List.take_zero,zAY,zAT,ne_eq,Nat.reduceEqDiff,not_false_eq_true,gd,zAX,rops,fx,ld,zAR,cls,Nat.zero_add,Option.some.injEq,exists_eq_left',Nat.reduceAdd,tk24,s5,s6,X0,X1,X2,Y0,Y1,Y2]
  refine Wo.call hc (by rfl) (by rfl) ⟨by rfl,by rfl⟩ (xs := [x'.v,y'.v]) (by rfl) (by rfl) (by simp only [zAY,zAU,zAT,sp_n,Nat.reduceLT,ne_eq,Nat.reduceEqDiff,zNf,List.map_cons,List.map_nil,List.nil_append,List.append_nil,hn]; rfl) (Con.mono (convolve_run hC.wf hx'.ok hy'.ok sx sy hx'.cs hy'.cs) ?_)
  rintro w E1 ⟨hE1,mm1,La1,Lb1,ee1,p1,c1,q1,d1,hTP,rfl,i1,i2,w1,w2,-⟩
  obtain ⟨F1,r1,hF1,nF1,e0,e1,e2⟩ := put24 hE1.wf (v0 := .int .i64 mm1) (v1 := .slice p1 La1.length c1) (v2 := .slice q1 Lb1.length d1) rfl
  refine Wo.run hc 6 rfl rfl rfl ?_
  simp (maxSteps := 2000000) only [List.drop_zero,List.drop_succ_cons,List.take_succ_cons,List.take_zero,zAY,zAU,zAT,sp_n,zAK,Nat.reduceLT,ne_eq,Nat.reduceEqDiff,not_false_eq_true,gd,zAX,rops,fx,str,ext,zAR,List.getElem?_toArray,List.getElem?_cons_zero,List.getElem?_cons_succ,Nat.zero_add,Option.some.injEq,exists_eq_left',Value.cells,Nat.reduceAdd,tk24,hn,ext,ze24,r1,List.size_toArray,List.length_cons,List.length_nil,Nat.beq_refl]
  refine Wo.done hc rfl (hK _ _ ?_)
  clear hK X0 X1 X2 Y0 Y1 Y2
  have nE1 := hE1.next
  have hCF1 : Nx C.next C F1 := hE1.trans (hF1.le nE1)
  have hx1 := hX.nx hC.wf hCF1
  have hy1 := hY.nx hC.wf hCF1
  have X0 := hx1.c0
  have X1 := hx1.c1
  have X2 := hx1.c2
  have Y0 := hy1.c0
  have Y1 := hy1.c1
  have Y2 := hy1.c2
  refine Rn.seq hc ?_
  refine Rn.region hc fun K hK => ?_
  refine Wo.run hc 2 rfl rfl rfl ?_
  simp (maxSteps := 2000000) only [List.drop_zero,List.take_succ_cons,List.take_zero,zAY,zAT,ne_eq,Nat.reduceEqDiff,not_false_eq_true,gd,zAX,rops,fx,ld,zAR,cls,Nat.zero_add,Option.some.injEq,exists_eq_left',Nat.reduceAdd,tk24,s2,s3,X0,X1,X2,Y0,Y1,Y2]
  refine Wo.call hc (by rfl) (by rfl) ⟨by rfl,by rfl⟩ (xs := [x.v,y.v]) (by rfl) (by rfl) (by simp only [zAY,zAU,zAT,sp_n,Nat.reduceLT,ne_eq,Nat.reduceEqDiff,zNf,List.map_cons,List.map_nil,List.nil_append,List.append_nil,hn]; rfl) (Con.mono (convolve_ref hCF1.wf hx1.ok hy1.ok hx1.s2 hy1.s2 hx1.cr hy1.cr) ?_)
  intro w G1 hR
  have hR' : TldR F1 (errs [x',y'] [x',y']) x'.m (conv x'.m x'.s y'.s) w G1 := by
    rw [errs_tw tx ty,tx.1,tw_s tx,tw_s ty]
    exact hR
  obtain ⟨t1,u1,v1,z1,rfl,hG1,hP⟩ := pair_of hE1 hTP i1 i2 w1 w2 hF1 nF1 e0 e1 e2 hR'
  obtain ⟨D1,r2,hH1,nD1,f0,f1,f2⟩ := put24 hG1.wf (v0 := .int .i64 mm1) (v1 := .slice t1 La1.length u1) (v2 := .slice v1 Lb1.length z1) rfl
  have P1 := hP D1 hH1 nD1 f0 f1 f2
  refine Wo.run hc 6 rfl rfl rfl ?_
  simp (maxSteps := 2000000) only [List.drop_zero,List.drop_succ_cons,List.take_succ_cons,List.take_zero,zAY,zAU,zAT,sp_n,zAK,Nat.reduceLT,ne_eq,Nat.reduceEqDiff,not_false_eq_true,gd,zAX,rops,fx,str,ext,zAR,List.getElem?_toArray,List.getElem?_cons_zero,List.getElem?_cons_succ,Nat.zero_add,Option.some.injEq,exists_eq_left',Value.cells,Nat.reduceAdd,tk24,hn,ext,ze24,r2,List.size_toArray,List.length_cons,List.length_nil,Nat.beq_refl]
  refine Wo.done hc rfl (hK _ _ ?_)
  clear hK X0 X1 X2 Y0 Y1 Y2 hP r1 r2 f0 f1 f2 e0 e1 e2 hR hR' hTP i1 i2 w1 w2
  have nG1 := hG1.next
  have nF1' := hF1.next
  have hD1 : Nx C.next C D1 := hCF1.trans ((hG1.trans (hH1.le nG1)).le hCF1.next)
  refine Rn.slots (I := fun s => s.n = 59 ∧ sget s 2 = .pointer (some ⟨bX,0,none⟩) ∧ sget s 3 = .pointer (some ⟨bY,0,none⟩) ∧ sget s 5 = .pointer (some ⟨bx,0,none⟩) ∧ sget s 6 = .pointer (some ⟨by',0,none⟩) ∧ sget s 7 = .pointer (some ⟨E1.next,0,none⟩) ∧ sget s 8 = .int .i64 ee1 ∧ sget s 9 = .pointer (some ⟨G1.next,0,none⟩) ∧ sget s 10 = .int .i64 ee1)
    ⟨by simp only [sp_n,hn],by simp only [zAT,ne_eq,Nat.reduceEqDiff,zNf,s2],by simp only [zAT,ne_eq,Nat.reduceEqDiff,zNf,s3],by simp only [zAT,ne_eq,Nat.reduceEqDiff,zNf,s5],by simp only [zAT,ne_eq,Nat.reduceEqDiff,zNf,s6],by simp only [zAU,zAT,sp_n,Nat.reduceLT,ne_eq,Nat.reduceEqDiff,zNf,hn],by simp only [zAU,zAT,sp_n,Nat.reduceLT,ne_eq,Nat.reduceEqDiff,zNf,hn],by simp only [zAU,zAT,sp_n,Nat.reduceLT,ne_eq,Nat.reduceEqDiff,zNf,hn],by simp only [zAU,sp_n,Nat.reduceLT,hn]⟩ ?_
  clear hn s2 s3 s5 s6 s
  rintro s ⟨hn,s2,s3,s5,s6,s7,s8,s9,s10⟩
  have a0 := P1.c0
  have a1 := P1.c1
  have a2 := P1.c2
  have a3 := P1.d0
  have a4 := P1.d1
  have a5 := P1.d2
  refine Rn.seq hc ?_
  refine Rn.region hc fun K hK => ?_
  refine Wo.run hc 2 rfl rfl rfl ?_
  simp (maxSteps := 2000000) only [List.drop_zero,List.take_succ_cons,List.take_zero,zAY,zAT,ne_eq,Nat.reduceEqDiff,not_false_eq_true,gd,zAX,rops,fx,ld,zAR,cls,Nat.zero_add,Option.some.injEq,exists_eq_left',Nat.reduceAdd,tk24,s7,s9,a0,a1,a2,a3,a4,a5]
  refine Wo.call hc (by rfl) (by rfl) ⟨by rfl,by rfl⟩ (xs := [(⟨mm1,p1,c1,La1,q1,d1,Lb1⟩ : Las).v,(⟨mm1,t1,u1,La1,v1,z1,Lb1⟩ : Las).v]) (by rfl) (by rfl) (by simp only [zAY,zAU,zAT,sp_n,Nat.reduceLT,ne_eq,Nat.reduceEqDiff,zNf,List.map_cons,List.map_nil,List.nil_append,List.append_nil,hn]; rfl) (Con.mono (same_true hD1.wf P1.ok' P1.ok P1.tw) ?_)
  rintro w J1 ⟨rfl,k3⟩
  refine Wo.run hc 6 rfl rfl rfl ?_
  simp (maxSteps := 2000000) only [List.drop_zero,List.drop_succ_cons,List.take_succ_cons,List.take_zero,zAY,zAU,zAT,sp_n,Nat.reduceLT,ne_eq,Nat.reduceEqDiff,not_false_eq_true,gd,nth,zAX,zAP,beqB,rops,fx,pck,bin_eql,Option.some.injEq,exists_eq_left',Nat.reduceAdd,hn,s8,s10,eq_self,decide_true]
  refine Wo.done hc rfl (hK _ _ ?_)
  clear hK a0 a1 a2 a3 a4 a5
  have hJ1 : Nx C.next C J1 := hD1.trans (k3.le hD1.next)
  have S1 := (P1.nx k3).sp
  have a0 := S1.c0
  have a1 := S1.c1
  have a2 := S1.c2
  refine Rn.seq hc ?_
  refine Rn.region hc fun K hK => ?_
  refine Wo.run hc 1 rfl rfl rfl ?_
  simp (maxSteps := 2000000) only [List.drop_zero,List.take_succ_cons,List.take_zero,zAY,zAT,ne_eq,Nat.reduceEqDiff,not_false_eq_true,gd,zAX,rops,fx,ld,zAR,cls,Nat.zero_add,Option.some.injEq,exists_eq_left',Nat.reduceAdd,tk24,s7,a0,a1,a2]
  refine Wo.call hc (by rfl) (by rfl) ⟨by rfl,by rfl⟩ (xs := [(⟨mm1,p1,c1,La1,q1,d1,Lb1⟩ : Las).v]) (by rfl) (by rfl) (by simp only [zAY,zAU,sp_n,Nat.reduceLT,List.map_cons,List.map_nil,List.nil_append,List.append_nil,hn]; rfl) (Con.mono (spoil_off hJ1.wf (show E1.next ≤ J1.next by have := S1.lt; omega) S1.w1 S1.w2 S1.ln) ?_)
  rintro w K1 j1
  refine Wo.done hc rfl (hK _ _ ?_)
  clear hK a0 a1 a2
  have hK4 := nx_off hJ1 j1 (by omega)
  have hXe := hX.nx hC.wf hK4
  have hYe := hY.nx hC.wf hK4
  have hxe := hx'.nx hC.wf hK4
  have hye := hy'.nx hC.wf hK4
  have X0 := hXe.c0
  have X1 := hXe.c1
  have X2 := hXe.c2
  have g0 := hxe.c0
  have g1 := hxe.c1
  have g2 := hxe.c2
  refine Rn.seq hc ?_
  refine Rn.region hc fun K hK => ?_
  refine Wo.run hc 4 rfl rfl rfl ?_
  simp (maxSteps := 2000000) only [List.drop_zero,List.take_succ_cons,List.take_zero,zAY,zAU,zAT,sp_n,Nat.reduceLT,ne_eq,Nat.reduceEqDiff,not_false_eq_true,gd,nth,zAX,zAP,beqB,rops,fx,ld,zAR,cls,Nat.zero_add,Option.some.injEq,exists_eq_left',Nat.reduceAdd,tk24,hn,s2,s5,X0,X1,X2,g0,g1,g2]
  refine Wo.call hc (by rfl) (by rfl) ⟨by rfl,by rfl⟩ (xs := [x'.v,x.v]) (by simp only [zAU,zAT,sp_n,Nat.reduceLT,ne_eq,Nat.reduceEqDiff,zNf,gd,nth,zAP,beqB,hn]) (by rfl) (by simp only [zAY,zAU,zAT,sp_n,Nat.reduceLT,ne_eq,Nat.reduceEqDiff,zNf,List.map_cons,List.map_nil,List.nil_append,List.append_nil,hn]; rfl) (Con.mono (same_true hK4.wf hXe.ok hxe.ok tx) ?_)
  rintro w M1 ⟨rfl,l1⟩
  have hYm := hYe.nx hK4.wf l1
  have hym := hye.nx hK4.wf l1
  have Y0 := hYm.c0
  have Y1 := hYm.c1
  have Y2 := hYm.c2
  have h0 := hym.c0
  have h1 := hym.c1
  have h2 := hym.c2
  refine Wo.run hc 4 rfl rfl rfl ?_
  simp (maxSteps := 2000000) only [List.drop_zero,List.drop_succ_cons,List.take_succ_cons,List.take_zero,zAY,zAU,zAT,sp_n,Nat.reduceLT,ne_eq,Nat.reduceEqDiff,not_false_eq_true,gd,nth,zAX,zAP,beqB,rops,fx,ld,pck,zAR,cls,Nat.zero_add,Option.some.injEq,exists_eq_left',Nat.reduceAdd,tk24,hn,s3,s6,Y0,Y1,Y2,h0,h1,h2]
  refine Wo.call hc (by rfl) (by rfl) ⟨by rfl,by rfl⟩ (xs := [y'.v,y.v]) (by simp only [zAU,zAT,sp_n,Nat.reduceLT,ne_eq,Nat.reduceEqDiff,zNf,gd,nth,zAP,beqB,hn]) (by rfl) (by simp only [zAY,zAU,zAT,sp_n,Nat.reduceLT,ne_eq,Nat.reduceEqDiff,zNf,List.map_cons,List.map_nil,List.nil_append,List.append_nil,hn]; rfl) (Con.mono (same_true l1.wf hYm.ok hym.ok ty) ?_)
  rintro w M2 ⟨rfl,l2⟩
  have hCM : Nx C.next C M2 := hK4.trans ((l1.trans (l2.le l1.next)).le hK4.next)
  have hAM : Nx A.next A M2 := hA.trans (hCM.le hA.next)
  refine Wo.run hc 2 rfl rfl rfl ?_
  simp (maxSteps := 2000000) only [List.drop_zero,List.drop_succ_cons,List.take_succ_cons,List.take_zero,zAY,zAU,zAT,sp_n,Nat.reduceLT,ne_eq,Nat.reduceEqDiff,not_false_eq_true,gd,zAX,rops,fx,pck,Option.some.injEq,exists_eq_left',Nat.reduceAdd,hn]
  refine Wo.call hc (by rfl) (by rfl) ⟨by rfl,by rfl⟩ (xs := []) (by simp only [zAU,sp_n,Nat.reduceLT,gd,nth,zAP,beqB,hn]) (by rfl) (by rfl) (Con.mono (awake_con M2) ?_)
  rintro w M3 ⟨rfl,rfl⟩
  refine Wo.run hc 2 rfl rfl rfl ?_
  simp (maxSteps := 2000000) only [List.drop_zero,List.drop_succ_cons,List.take_succ_cons,List.take_zero,zAY,zAU,zAT,sp_n,Nat.reduceLT,ne_eq,Nat.reduceEqDiff,not_false_eq_true,gd,zAX,rops,fx,pck,Option.some.injEq,exists_eq_left',Nat.reduceAdd,hn]
  refine Wo.done hc rfl (hK _ _ ?_)
  clear hK
  (repeat (first | refine Rn.seq hc ?_ | refine Rn.skip hc ?_ | refine Rn.block hc ?_ | refine Rn.inBlock hc ?_ | refine Rn.scope hc ?_ | refine Rn.inScope hc ?_))
  refine Rn.ret (zAO rfl ⟨?_,hAM⟩)
  simp only [zAU,sp_n,Nat.reduceLT,hn]
theorem law_convs {A : AHeap} (hw : WF A) {m m' : Int} {sa ra sa' ra' : Option Addr} {sn sc rn rc sn' sc' rn' rc' : Nat} (h1 : Arg A sa sn sc ra rn rc) (h2 : Arg A sa' sn' sc' ra' rn' rc') :
    ConF Try.prog 7 [.agg #[.int .i64 m,.slice sa sn sc,.slice ra rn rc],.agg #[.int .i64 m',.slice sa' sn' sc',.slice ra' rn' rc']] A (fun w A1 => w = .bool true ∧ Nx A.next A A1) := by
  refine conF_of_rn hc Try.func7 rfl (Nat.le_of_ble_eq_true rfl) ?_
  obtain ⟨A1,e1,hx1,hn1,b0,b1,b2⟩ := box3 hw (.int .i64 m) (.slice sa sn sc) (.slice ra rn rc) 24
  obtain ⟨A2,e2,hx2,hn2,c0,c1,c2⟩ := box3 hx1.wf (.int .i64 m') (.slice sa' sn' sc') (.slice ra' rn' rc') 24
  have hx02 : Nx A.next A A2 := hx1.trans (hx2.le hx1.next)
  have b0 := (hx2.cl (show A.next < A1.next by omega) 0).trans b0
  have b1 := (hx2.cl (show A.next < A1.next by omega) 1).trans b1
  have b2 := (hx2.cl (show A.next < A1.next by omega) 2).trans b2
  rw [s_in2]
  refine Rn.seq hc ?_
  refine Rn.reg hc rfl ?_
  simp only [zAY,zAS,zAU,zAT,sp_n,Nat.reduceLT,ne_eq,Nat.reduceEqDiff,zNf,gd,zAX,rops,fx,zOi,zEl,Value.cells,show Try.f7.ntmps = 59 from rfl,e1,e2]
  refine Rn.seq hc ?_
  refine Rn.seq hc ?_
  refine Rn.region hc fun K hK => ?_
  refine Wo.run hc 1 rfl rfl rfl ?_
  simp (maxSteps := 2000000) only [List.drop_zero,List.take_succ_cons,List.take_zero,zAY,zAU,zAT,sp_n,Nat.reduceLT,ne_eq,Nat.reduceEqDiff,not_false_eq_true,gd,zAX,rops,fx,ld,zAR,cls,Nat.zero_add,Option.some.injEq,exists_eq_left',Nat.reduceAdd,tk24,b0,b1,b2]
  refine Wo.call hc (by rfl) (by rfl) ⟨by rfl,by rfl⟩ (xs := [.agg #[.int .i64 m,.slice sa sn sc,.slice ra rn rc]]) (by rfl) (by rfl) (by rfl) (Con.mono (great_lasso hx2.wf m sa ra sn rn sc rc) ?_)
  rintro w A3 ⟨rfl,hx3⟩
  have hx03 : Nx A.next A A3 := hx02.trans (hx3.le hx02.next)
  have c0 := (hx3.cl (show A1.next < A2.next by omega) 0).trans c0
  have c1 := (hx3.cl (show A1.next < A2.next by omega) 1).trans c1
  have c2 := (hx3.cl (show A1.next < A2.next by omega) 2).trans c2
  have n13 : A1.next < A3.next := by have := hx3.next; omega
  by_cases hg : 70 < sn ∨ 130 < rn
  · have hd : (decide ((70 : Int) < sn) || decide ((130 : Int) < rn)) = true := by simp; omega
    refine Wo.run hc 4 rfl rfl rfl ?_
    simp (maxSteps := 2000000) only [List.drop_zero,List.drop_succ_cons,List.take_succ_cons,List.take_zero,zAY,zAS,zAU,zAT,sp_n,Nat.reduceLT,ne_eq,Nat.reduceEqDiff,not_false_eq_true,gd,nth,zAX,zAP,beqB,rops,fx,pck,Option.some.injEq,exists_eq_left',Nat.reduceAdd,hd]
    refine Wo.done hc rfl (hK _ _ ?_)
    clear hK
    (repeat (first | refine Rn.seq hc ?_ | refine Rn.skip hc ?_ | refine Rn.block hc ?_ | refine Rn.inBlock hc ?_ | refine Rn.scope hc ?_ | refine Rn.inScope hc ?_))
    refine Rn.zAM hc rfl ?_
    simp only [zAY,zAU,sp_n,Nat.reduceLT,Value.bool.injEq,zEl]
    (repeat (first | refine Rn.seq hc ?_ | refine Rn.skip hc ?_ | refine Rn.block hc ?_ | refine Rn.inBlock hc ?_ | refine Rn.scope hc ?_ | refine Rn.inScope hc ?_))
    refine Rn.region hc fun K hK => ?_
    refine Wo.call hc (by rfl) (by rfl) ⟨by rfl,by rfl⟩ (xs := []) (by rfl) (by rfl) (by rfl) (Con.mono (awake_con A3) ?_)
    rintro w B3 ⟨rfl,rfl⟩
    refine Wo.run hc 1 rfl rfl rfl ?_
    simp (maxSteps := 2000000) only [List.drop_zero,List.drop_succ_cons,List.take_succ_cons,List.take_zero,zAY,zAU,sp_n,Nat.reduceLT,gd,zAX,rops,fx,Nat.zero_add,Option.some.injEq,exists_eq_left',Nat.reduceAdd]
    refine Wo.done hc rfl (hK _ _ ?_)
    clear hK
    (repeat (first | refine Rn.seq hc ?_ | refine Rn.skip hc ?_ | refine Rn.block hc ?_ | refine Rn.inBlock hc ?_ | refine Rn.scope hc ?_ | refine Rn.inScope hc ?_))
    exact Rn.ret (zAO rfl ⟨by simp only [zAU,sp_n,Nat.reduceLT],hx03⟩)
  · have hd : (decide ((70 : Int) < sn) || decide ((130 : Int) < rn)) = false := by simp; omega
    refine Wo.run hc 2 rfl rfl rfl ?_
    simp (maxSteps := 2000000) only [List.drop_zero,List.drop_succ_cons,List.take_succ_cons,List.take_zero,zAY,zAU,zAT,sp_n,Nat.reduceLT,ne_eq,Nat.reduceEqDiff,not_false_eq_true,gd,nth,zAX,zAP,beqB,rops,fx,ld,zAR,cls,Nat.zero_add,Option.some.injEq,exists_eq_left',Nat.reduceAdd,tk24,hd,c0,c1,c2]
    refine Wo.call hc (by rfl) (by rfl) ⟨by rfl,by rfl⟩ (xs := [.agg #[.int .i64 m',.slice sa' sn' sc',.slice ra' rn' rc']]) (by rfl) (by rfl) (by rfl) (Con.mono (great_lasso hx3.wf m' sa' ra' sn' rn' sc' rc') ?_)
    rintro w A4 ⟨rfl,hx4⟩
    have hx04 : Nx A.next A A4 := hx03.trans (hx4.le hx03.next)
    by_cases hg2 : 70 < sn' ∨ 130 < rn'
    · have hd2 : (decide ((70 : Int) < sn') || decide ((130 : Int) < rn')) = true := by simp; omega
      refine Wo.run hc 1 rfl rfl rfl ?_
      simp (maxSteps := 2000000) only [List.drop_zero,List.drop_succ_cons,List.take_succ_cons,List.take_zero,zAY,zAU,zAT,sp_n,Nat.reduceLT,ne_eq,Nat.reduceEqDiff,not_false_eq_true,gd,zAX,rops,fx,pck,Option.some.injEq,exists_eq_left',Nat.reduceAdd,hd2]
      refine Wo.done hc rfl (hK _ _ ?_)
      clear hK
      (repeat (first | refine Rn.seq hc ?_ | refine Rn.skip hc ?_ | refine Rn.block hc ?_ | refine Rn.inBlock hc ?_ | refine Rn.scope hc ?_ | refine Rn.inScope hc ?_))
      refine Rn.zAM hc rfl ?_
      simp only [zAY,zAU,sp_n,Nat.reduceLT,Value.bool.injEq,zEl]
      (repeat (first | refine Rn.seq hc ?_ | refine Rn.skip hc ?_ | refine Rn.block hc ?_ | refine Rn.inBlock hc ?_ | refine Rn.scope hc ?_ | refine Rn.inScope hc ?_))
      refine Rn.region hc fun K hK => ?_
      refine Wo.call hc (by rfl) (by rfl) ⟨by rfl,by rfl⟩ (xs := []) (by rfl) (by rfl) (by rfl) (Con.mono (awake_con A4) ?_)
      rintro w B3 ⟨rfl,rfl⟩
      refine Wo.run hc 1 rfl rfl rfl ?_
      simp (maxSteps := 2000000) only [List.drop_zero,List.drop_succ_cons,List.take_succ_cons,List.take_zero,zAY,zAU,sp_n,Nat.reduceLT,gd,zAX,rops,fx,Nat.zero_add,Option.some.injEq,exists_eq_left',Nat.reduceAdd]
      refine Wo.done hc rfl (hK _ _ ?_)
      clear hK
      (repeat (first | refine Rn.seq hc ?_ | refine Rn.skip hc ?_ | refine Rn.block hc ?_ | refine Rn.inBlock hc ?_ | refine Rn.scope hc ?_ | refine Rn.inScope hc ?_))
      exact Rn.ret (zAO rfl ⟨by simp only [zAU,sp_n,Nat.reduceLT],hx04⟩)
    · have hd2 : (decide ((70 : Int) < sn') || decide ((130 : Int) < rn')) = false := by simp; omega
      refine Wo.run hc 1 rfl rfl rfl ?_
      simp (maxSteps := 2000000) only [List.drop_zero,List.drop_succ_cons,List.take_succ_cons,List.take_zero,zAY,zAU,zAT,sp_n,Nat.reduceLT,ne_eq,Nat.reduceEqDiff,not_false_eq_true,gd,zAX,rops,fx,pck,Option.some.injEq,exists_eq_left',Nat.reduceAdd,hd2]
      refine Wo.done hc rfl (hK _ _ ?_)
      clear hK
      refine Rn.zAM hc rfl ?_
      simp only [zAY,zAU,sp_n,Nat.reduceLT,Value.bool.injEq,zEl]
      refine Rn.skip hc ?_
      obtain ⟨st,ro,rfl,rfl,q1,q2,q3,q4,q5,q6⟩ := h1 (by omega) (by omega)
      obtain ⟨st',ro',rfl,rfl,r1,r2,r3,r4,r5,r6⟩ := h2 (by omega) (by omega)
      have hx24 : Nx A2.next A2 A4 := hx3.trans (hx4.le hx3.next)
      have b0 := (hx24.cl (show A.next < A2.next by omega) 0).trans b0
      have b1 := (hx24.cl (show A.next < A2.next by omega) 1).trans b1
      have b2 := (hx24.cl (show A.next < A2.next by omega) 2).trans b2
      have c0 := (hx4.cl n13 0).trans c0
      have c1 := (hx4.cl n13 1).trans c1
      have c2 := (hx4.cl n13 2).trans c2
      have n4 := hx4.next
      have hX : Has A4 A.next ⟨m,sa,sc,st,ra,rc,ro⟩ :=
        { c0 := b0,c1 := b1,c2 := b2,ok := ⟨(q1.nx hx04 (Nat.le_refl _)).mono (Nat.le_refl _) hx04.next,(q2.nx hx04 (Nat.le_refl _)).mono (Nat.le_refl _) hx04.next,show st.length < _ by omega,show ro.length < _ by omega⟩,lt := by omega,ls := show st.length ≤ 70 by omega,lr := show ro.length ≤ 130 by omega,cs := q3,cr := q4,s1 := fun h => (q5 h).nx hw hx04,s2 := fun h => (q6 h).nx hw hx04 }
      have hY : Has A4 A1.next ⟨m',sa',sc',st',ra',rc',ro'⟩ :=
        { c0 := c0,c1 := c1,c2 := c2,ok := ⟨(r1.nx hx04 (Nat.le_refl _)).mono (Nat.le_refl _) hx04.next,(r2.nx hx04 (Nat.le_refl _)).mono (Nat.le_refl _) hx04.next,show st'.length < _ by omega,show ro'.length < _ by omega⟩,lt := by omega,ls := show st'.length ≤ 70 by omega,lr := show ro'.length ≤ 130 by omega,cs := r3,cr := r4,s1 := fun h => (r5 h).nx hw hx04,s2 := fun h => (r6 h).nx hw hx04 }
      refine convs_own hx04 hX hY (by simp only [sp_n]) (by simp only [zAU,zAT,sp_n,Nat.reduceLT,ne_eq,Nat.reduceEqDiff,zNf]) (by simp only [zAU,zAT,sp_n,Nat.reduceLT,ne_eq,Nat.reduceEqDiff,zNf]) fun s C bx by' x' y' hC hx' hy' tx ty sx sy hn s2 s3 s5 s6 => ?_
      exact convs_rest (hx04.trans (hC.le hx04.next)) (hX.nx hx04.wf hC) (hY.nx hx04.wf hC) hx' hy' tx ty hn s2 s3 s5 s6 sx sy
end Go.Proofs.Ytdaljohmfnfgiaa
namespace Go.Proofs.Ytdaljohmfnfgiaa
open Go.ChangeShapes Go.WideShapes Go.ChangeAt Go.RowKit Go.Proofs.Ytdaljohmfnfgiaa.Canon
open Go.Deep (open_slice_pairs open_slice)
set_option maxRecDepth 100000 in
theorem ints_room {H : Type} {enc : TypeId × Value → H} {w : World} {base : Nat} {sp : Nat → Bool} {hd : Bool} {fuel : Nat} {a : Option Addr} {n c : Nat} {x : DataW H × List MemPlace}
    (h : DataW.trod enc Try.prog w base sp hd fuel 22 [.slice a n c] = some x) : n ≤ c := by
  rcases open_ints Try.underlying22 Try.underlying3 Try.cells3 h with ⟨h1,_⟩ | ⟨a1,len,cap,zs,h1,_,hlc,_,_,_,_,_⟩
  · simp only [List.cons.injEq,Value.slice.injEq,and_true] at h1
    obtain ⟨rfl,rfl,rfl⟩ := h1
    exact Nat.le_refl _
  · simp only [List.cons.injEq,Value.slice.injEq,and_true] at h1
    obtain ⟨rfl,rfl,rfl⟩ := h1
    exact hlc
set_option maxRecDepth 100000 in
theorem lasso_room {H : Type} {enc : TypeId × Value → H} {w : World} {base : Nat} {sp : Nat → Bool} {hd : Bool} {m : Int} {sa ra : Option Addr} {sn sc rn rc : Nat} {d : DataW H} {ps : List MemPlace}
    (h : DataW.Trod enc Try.prog w base sp hd 24 (.agg #[.int .i64 m,.slice sa sn sc,.slice ra rn rc]) d ps) : sn ≤ sc ∧ rn ≤ rc := by
  obtain ⟨fuel,hf⟩ := h
  obtain ⟨xs,k,_,_,_,hlen,hfs⟩ := DataW.trod_struct Try.underlying24 hf
  have f1 := hfs 1 { name := "Stem",type := 22,offset := 1,embedded := false,tag := "",pkgPath := "",byteOffset := 8 } rfl
  have f2 := hfs 2 { name := "Round",type := 22,offset := 2,embedded := false,tag := "",pkgPath := "",byteOffset := 32 } rfl
  obtain ⟨y1,hy1⟩ : ∃ y,xs[1]? = some y := ⟨_,List.getElem?_eq_getElem (by rw [hlen]; decide)⟩
  obtain ⟨y2,hy2⟩ : ∃ y,xs[2]? = some y := ⟨_,List.getElem?_eq_getElem (by rw [hlen]; decide)⟩
  rw [hy1] at f1
  rw [hy2] at f2
  simp only [Try.cells22] at f1 f2
  exact ⟨ints_room f1,ints_room f2⟩
end Go.Proofs.Ytdaljohmfnfgiaa
namespace Go.Proofs.Ytdaljohmfnfgiaa
section
open Go Go.RowKit Go.Proofs.Ytdaljohmfnfgiaa.Canon
theorem convs_any {W : World} {m m' : Int} {sa ra sa' ra' : Option Addr} {sn sc rn rc sn' sc' rn' rc' : Nat} (h1 : ∀ x,sa = some x → x.spot = none) (h2 : ∀ x,ra = some x → x.spot = none) (h3 : ∀ x,sa' = some x → x.spot = none) (h4 : ∀ x,ra' = some x → x.spot = none)
    (k1 : ∃ l : List Int,l.length = sn ∧ IntsW W sa l) (k2 : ∃ l : List Int,l.length = rn ∧ IntsW W ra l) (k3 : ∃ l : List Int,l.length = sn' ∧ IntsW W sa' l) (k4 : ∃ l : List Int,l.length = rn' ∧ IntsW W ra' l) (n1 : sn ≤ sc) (n2 : rn ≤ rc) (n3 : sn' ≤ sc') (n4 : rn' ≤ rc') :
    Calls Try.prog 7 #[.agg #[.int .i64 m,.slice sa sn sc,.slice ra rn rc],.agg #[.int .i64 m',.slice sa' sn' sc',.slice ra' rn' rc']] W (fun e w' => e = .returned (.bool true) ∧ Below W.heap.size W w') := by
  obtain ⟨A,hA⟩ := in_any W (W.heap.size + 1 + blkOf sa + blkOf ra + blkOf sa' + blkOf ra') (by omega) (by omega)
  obtain ⟨st,e1,i1⟩ := k1
  obtain ⟨ro,e2,i2⟩ := k2
  obtain ⟨st',e3,i3⟩ := k3
  obtain ⟨ro',e4,i4⟩ := k4
  refine calls_of_conF (t := 4) Try.func7 rfl hA (xs := [.agg #[.int .i64 m,.slice sa sn sc,.slice ra rn rc],.agg #[.int .i64 m',.slice sa' sn' sc',.slice ra' rn' rc']]) ?_
    (law_convs hA.wf (fun _ _ => ⟨st,ro,e1,e2,i1.ints hA,i2.ints hA,n1,n2,sl_in hA (i1.ints hA),sl_in hA (i2.ints hA)⟩) (fun _ _ => ⟨st',ro',e3,e4,i3.ints hA,i4.ints hA,n3,n4,sl_in hA (i3.ints hA),sl_in hA (i4.ints hA)⟩))
  have a1 : AR (inP (W.heap.size + 1 + blkOf sa + blkOf ra + blkOf sa' + blkOf ra')) #[.int .i64 m,.slice sa sn sc,.slice ra rn rc] #[.int .i64 m,.slice sa sn sc,.slice ra rn rc] :=
    ((AR.single (.int .i64 m)).push (inP_v (roV_slice h1 (by omega)))).push (inP_v (roV_slice h2 (by omega)))
  have a2 : AR (inP (W.heap.size + 1 + blkOf sa + blkOf ra + blkOf sa' + blkOf ra')) #[.int .i64 m',.slice sa' sn' sc',.slice ra' rn' rc'] #[.int .i64 m',.slice sa' sn' sc',.slice ra' rn' rc'] :=
    ((AR.single (.int .i64 m')).push (inP_v (roV_slice h3 (by omega)))).push (inP_v (roV_slice h4 (by omega)))
  exact (AR.single (.ofAgg a1)).push (.ofAgg a2)
end
section
open Go.ChangeShapes Go.WideShapes Go.ChangeAt Go.RowKit Go.Proofs.Ytdaljohmfnfgiaa.Canon
open Go.Deep (open_slice_pairs open_slice)
set_option maxRecDepth 100000 in
theorem lassoConvolves_lifted (os : Os) (started : os.Started) (H : Type) (enc : TypeId × Value → H) :
    ReturnsInHanded {} Try.checked os 7 .any (Rows.lassoConvolvesSpec.pre6 enc Try.prog Try.f7 Rows.lassoConvolvesRow.domain false) (Rows.lassoConvolvesSpec.post enc Try.prog Try.f7 false true false false) := by
  refine returnsInHanded_of_change (C := Try.checked) Try.own started (by kernel_rfl) Try.func7
    (ChangeSpec.witness6 (enc := enc) (C := Try.checked) false ⟨#[],#[.agg #[.int .i64 0,.slice none 0 0,.slice none 0 0],.agg #[.int .i64 0,.slice none 0 0,.slice none 0 0]],[]⟩ 8 (by kernel_rfl) (by kernel_rfl) (by kernel_rfl) (by kernel_rfl)) ?_
  intro W base args ds gs before hval0 hW hcnd _
  have hval : ∀ (j : Nat) t v,Try.f7.params[j]? = some t → args[j]? = some v → Value.okWide Try.prog W .any base t v := hval0
  have hW' := hW
  obtain ⟨p,q,hA0,hV,rfl,hfz,hnd⟩ := hW
  have hA : DataW.TrodAll enc Try.prog W 0 (fun _ => true) true Try.f7.params.toList args.toList ds p := hA0
  rw [Try.params7] at hA hval
  obtain ⟨v0,v1,d0,d1,p0,p1,rfl,rfl,rfl,h0,h1⟩ := trodAll_two hA
  obtain ⟨rfl,rfl⟩ := trodVars_none hV
  obtain ⟨m,sa,sn,sc,ra,rn,rc,rfl,hk,hn⟩ := lasso_shape (hval 0 24 v0 rfl rfl)
  obtain ⟨i1,i2⟩ := lasso_ints h0 hk hn
  obtain ⟨r1,r2⟩ := lasso_room h0
  obtain ⟨m',sa',sn',sc',ra',rn',rc',rfl,hk',hn'⟩ := lasso_shape (hval 1 24 v1 rfl rfl)
  obtain ⟨i3,i4⟩ := lasso_ints h1 hk' hn'
  obtain ⟨r3,r4⟩ := lasso_room h1
  clear hA0 hval0
  simp only [List.append_nil] at hW'
  have hplace : ∀ p ∈ p0 ++ p1,p.block < W.heap.size := fun p hp => by simpa using hW'.lt p hp
  refine (convs_any (m := m) (m' := m') hk hn hk' hn' i1 i2 i3 i4 r1 r2 r3 r4).mono fun e W' ⟨he,hb⟩ => ?_
  subst he
  have harg0 : ∀ sp : Nat → Bool,(∀ p ∈ p0 ++ p1,sp p.block = true) → DataW.Trod enc Try.prog W' 0 sp true 24 (.agg #[.int .i64 m,.slice sa sn sc,.slice ra rn rc]) d0 p0 := fun sp hsp =>
    WideElems.Trod_stays Try.laidOut (by kernel_rfl) (of_decide_eq_true (by kernel_rfl)) h0 (fun x hx => hb.same (hplace x (List.mem_append_left _ hx))) (fun x hx => hsp x (List.mem_append_left _ hx))
  have harg1 : ∀ sp : Nat → Bool,(∀ p ∈ p0 ++ p1,sp p.block = true) → DataW.Trod enc Try.prog W' 0 sp true 24 (.agg #[.int .i64 m',.slice sa' sn' sc',.slice ra' rn' rc']) d1 p1 := fun sp hsp =>
    WideElems.Trod_stays Try.laidOut (by kernel_rfl) (of_decide_eq_true (by kernel_rfl)) h1 (fun x hx => hb.same (hplace x (List.mem_append_right _ hx))) (fun x hx => hsp x (List.mem_append_right _ hx))
  exact ⟨_,rfl,post_of_below (pa := p0 ++ p1) (pv := []) hW' (fun _ _ _ => trodAll_mk1 (shut_bool Try.underlying4 _)) (fun sp hsp => trodAll_mk2 (harg0 sp hsp) (harg1 sp hsp)) (fun _ _ => rfl) (by simp) hb (ok_one (by kernel_rfl) rfl (okWide_bool_mk Try.underlying4 _))⟩
theorem lassoConvolves_holds : Rows.LassoConvolvesSaid :=
  OpenClaim.holds_of_wide 7 Try.f7 rfl rfl rfl rfl rfl rfl rfl ⟨rfl,rfl,rfl,rfl,rfl⟩ rfl rfl rfl rfl rfl (by kernel_rfl) Try.func7 (by kernel_rfl)
    (of_decide_eq_true (by kernel_rfl)) (by unfold Func.isWrapper; first | (rw [if_pos (by decide +kernel)]; kernel_rfl) | (rw [if_neg (by decide +kernel)]; exact ⟨rfl,rfl⟩))
    (fun os started H enc _ => lassoConvolves_lifted os started H enc)
end
end Go.Proofs.Ytdaljohmfnfgiaa
