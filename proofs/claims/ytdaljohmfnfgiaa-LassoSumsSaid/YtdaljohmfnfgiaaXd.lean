/- LassoSumsSaid: the law returns true for every input, and each argument reads afterwards as it read before. No condition. -/
import Derived.Test.YtdaljohmfnfgiaaXc
namespace Go.Proofs.Ytdaljohmfnfgiaa
section
open Go Go.RowKit Go.Proofs.Ytdaljohmfnfgiaa.Canon
theorem sums_any {W : World} {m m' by0 sp0 : Int} {sa ra sa' ra' : Option Addr} {sn sc rn rc sn' sc' rn' rc' : Nat} (h1 : ∀ x,sa = some x → x.spot = none) (h2 : ∀ x,ra = some x → x.spot = none) (h3 : ∀ x,sa' = some x → x.spot = none) (h4 : ∀ x,ra' = some x → x.spot = none)
    (k1 : ∃ l : List Int,l.length = sn ∧ IntsW W sa l) (k2 : ∃ l : List Int,l.length = rn ∧ IntsW W ra l) (k3 : ∃ l : List Int,l.length = sn' ∧ IntsW W sa' l) (k4 : ∃ l : List Int,l.length = rn' ∧ IntsW W ra' l) (n1 : sn ≤ sc) (n2 : rn ≤ rc) (n3 : sn' ≤ sc') (n4 : rn' ≤ rc') :
    Calls Try.prog 6 #[.agg #[.int .i64 m,.slice sa sn sc,.slice ra rn rc],.agg #[.int .i64 m',.slice sa' sn' sc',.slice ra' rn' rc'],.int .i64 by0,.int .i64 sp0] W (fun e w' => e = .returned (.bool true) ∧ Below W.heap.size W w') := by
  obtain ⟨A,hA⟩ := in_any W (W.heap.size + 1 + blkOf sa + blkOf ra + blkOf sa' + blkOf ra') (by omega) (by omega)
  obtain ⟨st,e1,i1⟩ := k1
  obtain ⟨ro,e2,i2⟩ := k2
  obtain ⟨st',e3,i3⟩ := k3
  obtain ⟨ro',e4,i4⟩ := k4
  refine calls_of_conF (t := 8) Try.func6 rfl hA (xs := [.agg #[.int .i64 m,.slice sa sn sc,.slice ra rn rc],.agg #[.int .i64 m',.slice sa' sn' sc',.slice ra' rn' rc'],.int .i64 by0,.int .i64 sp0]) ?_
    (law_sums hA.wf (fun _ _ => ⟨st,ro,e1,e2,i1.ints hA,i2.ints hA,n1,n2,sl_in hA (i1.ints hA),sl_in hA (i2.ints hA)⟩) (fun _ _ => ⟨st',ro',e3,e4,i3.ints hA,i4.ints hA,n3,n4,sl_in hA (i3.ints hA),sl_in hA (i4.ints hA)⟩))
  have a1 : AR (inP (W.heap.size + 1 + blkOf sa + blkOf ra + blkOf sa' + blkOf ra')) #[.int .i64 m,.slice sa sn sc,.slice ra rn rc] #[.int .i64 m,.slice sa sn sc,.slice ra rn rc] :=
    ((AR.single (.int .i64 m)).push (inP_v (roV_slice h1 (by omega)))).push (inP_v (roV_slice h2 (by omega)))
  have a2 : AR (inP (W.heap.size + 1 + blkOf sa + blkOf ra + blkOf sa' + blkOf ra')) #[.int .i64 m',.slice sa' sn' sc',.slice ra' rn' rc'] #[.int .i64 m',.slice sa' sn' sc',.slice ra' rn' rc'] :=
    ((AR.single (.int .i64 m')).push (inP_v (roV_slice h3 (by omega)))).push (inP_v (roV_slice h4 (by omega)))
  exact (((AR.single (.ofAgg a1)).push (.ofAgg a2)).push (.int .i64 by0)).push (.int .i64 sp0)
end
section
open Go.ChangeShapes Go.WideShapes Go.ChangeAt Go.RowKit Go.Proofs.Ytdaljohmfnfgiaa.Canon
open Go.Deep (open_slice_pairs open_slice)
set_option maxRecDepth 100000 in
theorem lassoSums_lifted (os : Os) (started : os.Started) (H : Type) (enc : TypeId × Value → H) :
    ReturnsInHanded {} Try.checked os 6 .any (Rows.lassoSumsSpec.pre6 enc Try.prog Try.f6 Rows.lassoSumsRow.domain false) (Rows.lassoSumsSpec.post enc Try.prog Try.f6 false true false false) := by
  refine returnsInHanded_of_change (C := Try.checked) Try.own started (by kernel_rfl) Try.func6
    (ChangeSpec.witness6 (enc := enc) (C := Try.checked) false ⟨#[],#[.agg #[.int .i64 0,.slice none 0 0,.slice none 0 0],.agg #[.int .i64 0,.slice none 0 0,.slice none 0 0],.int .i64 0,.int .i64 0],[]⟩ 8 (by kernel_rfl) (by kernel_rfl) (by kernel_rfl) (by kernel_rfl)) ?_
  intro W base args ds gs before hval0 hW hcnd _
  have hval : ∀ (j : Nat) t v,Try.f6.params[j]? = some t → args[j]? = some v → Value.okWide Try.prog W .any base t v := hval0
  have hW' := hW
  obtain ⟨p,q,hA0,hV,rfl,hfz,hnd⟩ := hW
  have hA : DataW.TrodAll enc Try.prog W 0 (fun _ => true) true Try.f6.params.toList args.toList ds p := hA0
  rw [Try.params6] at hA hval
  obtain ⟨v0,v1,v2,v3,d0,d1,d2,d3,p0,p1,p2,p3,rfl,rfl,rfl,h0,h1,h2,h3⟩ := trodAll_four hA
  obtain ⟨rfl,rfl⟩ := trodVars_none hV
  obtain ⟨m,sa,sn,sc,ra,rn,rc,rfl,hk,hn⟩ := lasso_shape (hval 0 24 v0 rfl rfl)
  obtain ⟨i1,i2⟩ := lasso_ints h0 hk hn
  obtain ⟨r1,r2⟩ := lasso_room h0
  obtain ⟨m',sa',sn',sc',ra',rn',rc',rfl,hk',hn'⟩ := lasso_shape (hval 1 24 v1 rfl rfl)
  obtain ⟨i3,i4⟩ := lasso_ints h1 hk' hn'
  obtain ⟨r3,r4⟩ := lasso_room h1
  obtain ⟨by0,rfl,rfl,rfl,hwv⟩ := open_int Try.underlying3 (hval 2 3 v2 rfl rfl) h2
  obtain ⟨sp0,rfl,rfl,rfl,hwn⟩ := open_int Try.underlying3 (hval 3 3 v3 rfl rfl) h3
  clear hA0 hval0
  simp only [List.append_nil] at hW'
  have hplace : ∀ p ∈ p0 ++ p1,p.block < W.heap.size := fun p hp => by simpa using hW'.lt p hp
  refine (sums_any (m := m) (m' := m') (by0 := by0) (sp0 := sp0) hk hn hk' hn' i1 i2 i3 i4 r1 r2 r3 r4).mono fun e W' ⟨he,hb⟩ => ?_
  subst he
  have harg0 : ∀ sp : Nat → Bool,(∀ p ∈ p0 ++ p1,sp p.block = true) → DataW.Trod enc Try.prog W' 0 sp true 24 (.agg #[.int .i64 m,.slice sa sn sc,.slice ra rn rc]) d0 p0 := fun sp hsp =>
    WideElems.Trod_stays Try.laidOut (by kernel_rfl) (of_decide_eq_true (by kernel_rfl)) h0 (fun x hx => hb.same (hplace x (List.mem_append_left _ hx))) (fun x hx => hsp x (List.mem_append_left _ hx))
  have harg1 : ∀ sp : Nat → Bool,(∀ p ∈ p0 ++ p1,sp p.block = true) → DataW.Trod enc Try.prog W' 0 sp true 24 (.agg #[.int .i64 m',.slice sa' sn' sc',.slice ra' rn' rc']) d1 p1 := fun sp hsp =>
    WideElems.Trod_stays Try.laidOut (by kernel_rfl) (of_decide_eq_true (by kernel_rfl)) h1 (fun x hx => hb.same (hplace x (List.mem_append_right _ hx))) (fun x hx => hsp x (List.mem_append_right _ hx))
  refine ⟨_,rfl,post_of_below (pa := p0 ++ p1) (pv := []) hW' (fun _ _ _ => trodAll_mk1 (shut_bool Try.underlying4 _)) (fun sp hsp => ?_) (fun _ _ => rfl) (by simp) hb (ok_one (by kernel_rfl) rfl (okWide_bool_mk Try.underlying4 _))⟩
  have hall : DataW.TrodAll enc Try.prog W' 0 sp true [24,24,3,3] [.agg #[.int .i64 m,.slice sa sn sc,.slice ra rn rc],.agg #[.int .i64 m',.slice sa' sn' sc',.slice ra' rn' rc'],.int .i64 by0,.int .i64 sp0] [d0,d1,.lit (.int .i64 by0),.lit (.int .i64 sp0)] (p0 ++ (p1 ++ ([] ++ []))) :=
    trodAll_mk4 (harg0 sp hsp) (harg1 sp hsp) (shut_int Try.underlying3 hwv) (shut_int Try.underlying3 hwn)
  simp only [List.append_nil] at hall
  exact hall
theorem lassoSums_holds : Rows.LassoSumsSaid :=
  OpenClaim.holds_of_wide 6 Try.f6 rfl rfl rfl rfl rfl rfl rfl ⟨rfl,rfl,rfl,rfl,rfl⟩ rfl rfl rfl rfl rfl (by kernel_rfl) Try.func6 (by kernel_rfl)
    (of_decide_eq_true (by kernel_rfl)) (by unfold Func.isWrapper; first | (rw [if_pos (by decide +kernel)]; kernel_rfl) | (rw [if_neg (by decide +kernel)]; exact ⟨rfl,rfl⟩))
    (fun os started H enc _ => lassoSums_lifted os started H enc)
end
end Go.Proofs.Ytdaljohmfnfgiaa
