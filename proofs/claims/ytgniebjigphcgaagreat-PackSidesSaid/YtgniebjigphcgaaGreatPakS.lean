/-
  A helper of ours: no claim of its own. Layer 11 (pack), lists only: the beginnings and the ends of a function, its lifetimes: the k-th beginning with the k-th end.
-/
import Derived.Test.YtgniebjigphcgaaGreatEdgGr
import Derived.Test.YtgniebjigphcgaaGreatEdgFx
import Derived.Test.YtgniebjigphcgaaGreatRx
import Derived.Test.YtgniebjigphcgaaGreatEdgO
import Derived.Test.YtgniebjigphcgaaGreatStepT
set_option linter.unusedVariables false
set_option linter.unusedSimpArgs false
namespace Go.Proofs.YtgniebjigphcgaaGreat
open Go.RowKit
attribute [local go_sem] GW.cell GW.frozen In.eq_true In.le_true In.ne In.ne' In.ne_add In.ne_add' In.lt_add Upto.le_true Upto.le_add Upto.lt_add Oper.semAt_some wide_depth wide_fn
/-- What a round's yield leaves: told in one way. -/
def RoundBX (X : List Nat) (n₀ B : Nat) (J Jx Fb : Nat → World → Prop) (k : Nat) (W1 : World) (bv : Bool) (W' : World) : Prop :=
  (bv = true → J (k + 1) W' ∧ BelX n₀ X W1 W' ∧ KeepsFrom B W1 W' ∧ ∀ b T us, Fb b W1 → Ob W1 b T us → Fb b W' ∧ Ob W' b T us) ∧ (bv = false → Jx (k + 1) W' ∧ KeepsFrom B W1 W')
set_option maxHeartbeats 8000000 in
set_option maxRecDepth 100000 in
theorem groups_seqx (X : List Nat) (L : List Ve) (v : Value) (w0 w : World) (b : Nat) (hC : Ew w0 X v L) (hz : L.length ≤ 1000000000) (hG : ∀ g ∈ grp (eds L), g.1.length ≤ 1000000) (hX : Ext w0 w) (hb : Ob w b 32 [v]) :
    SeqsX2 Tryz.prog w0.heap.size X 77 #[.pointer (some ⟨b, 0, none⟩)] Hgg (grp (eds L)) w := by
  intro l J Jx Fb W hW hJ hJx hFb hFn hY h0
  obtain ⟨A, cap, rfl, -, -, -⟩ := ew_form hC
  have q0 := (hb.ext hW).cell 0 rfl
  have hlb := (hb.ext hW).lt
  have hz0 := hX.size
  have hz1 := hW.size
  have hW2 := hide (hX.trans hW)
  have a2 : Ob (W.alloc (.cells #[.func (.yield l) #[] #[]] 93)) W.heap.size 93 [.func (.yield l) #[] #[]] := Ob.new W _ [.func (.yield l) #[] #[]]
  have f2 := hFn 0 W (.cells #[.func (.yield l) #[] #[]] 93) h0
  have j2 := (hJ 0).ext _ _ h0 ((Ext.refl W).alloc (.cells #[.func (.yield l) #[] #[]] 93))
  have hJ' := hide hJ
  have hJx' := hide hJx
  have hFb' := hide hFb
  have hY' := hide hY
  replace hC := hide hC
  replace hG := hide hG
  haveI : In b W := ⟨hlb⟩
  clear hJ hJx hFb hFn hY hb hX hW h0
  refine calls_marks Tryz.func77 rfl ?_
  simp only [Tryz.ntmps77, List.size_toArray, List.length_cons, List.length_nil, Nat.reduceAdd, Nat.reduceSub, Array.replicate_succ, Array.replicate_zero, List.push_toArray, List.append_toArray, List.nil_append, List.cons_append]
  go_wp2_with (go_at_call 62; refine (functions_c _ _ _ _).mono ?_; rintro ee w1 ⟨b2, rfl, hb2, hle, hX1⟩)
  have hX2 := hide (((Ext.refl W).alloc (.cells #[.func (.yield l) #[] #[]] 93)).trans hX1)
  have p2 := a2.ext hX1
  have hz2 := hX2.out.size
  have f3 := (hFb'.out W.heap.size).ext _ _ f2 hX1
  have j3 := (hJ'.out 0).ext _ _ j2 hX1
  clear a2 f2 j2 hle hX1
  obtain ⟨bb, hbb⟩ : ∃ bb, W.heap.size = bb := ⟨_, rfl⟩
  rw [hbb] at p2 f3
  refine wp_rangeX (xs := grp (eds L)) rfl (enters_of Tryz.func93 (by kernel_rfl) rfl) (functions_seqx X L _ w0 w1 b2 hC.out hz (hW2.out.trans hX2.out) hb2) (Ext.refl _) (by omega) (fun x vs W h => h.size) (fun x vs => Hgo.stab x vs)
    (fun k Wx => J k Wx ∧ (Fb bb Wx ∧ Ob Wx bb 93 [.func (.yield l) #[] #[]]))
    (fun c k Wx => c = .ret ∧ Jx k Wx)
    (fun k => ((hJ'.out k).mono hz2).and (((hFb'.out bb).mono hz2).and (Stab.ob _ _ _)))
    (fun c k => (Stab.pure _).and ((hJx'.out k).mono hz2))
    ⟨j3, f3, p2⟩
    (fun k x vs a' _ => ∃ r f, vs = #[r, f] ∧ a' = { tmps := #[.func (.yield l) #[] #[], .pointer (some ⟨b, 0, none⟩), .pointer (some ⟨bb, 0, none⟩), r, f, .slice A L.length cap, .func (.func 93) #[] #[.pointer (some ⟨b2, 0, none⟩)], r, f, undef, undef, undef, undef, undef, undef], defers := [] })
    (fun k x vs a' => Stab.pure _) ?assign ?body ?done ?stop
  case assign =>
    rintro LL k x vs W K _ ⟨r, f, rfl, -, -⟩ hK
    gi_wp2
    exact hK _ _ (Ext.refl _) ⟨r, f, rfl, by rw [← hbb]⟩
  case body =>
    rintro LL k x vs a' W1 hx ⟨hJk, hFk, o2⟩ ⟨r', f', e', hr, hf⟩ ⟨r, f, rfl, rfl⟩
    obtain ⟨rfl, rfl⟩ : r = r' ∧ f = f' := by simpa using e'
    obtain ⟨q, Jq⟩ := x
    have k2 := o2.cell 0 rfl
    have hlt2 := o2.lt
    have hq8 := hG.out (q, Jq) (List.mem_of_getElem? hx)
    simp only at hq8
    have hmx : Tryz.prog.follows .mixedOrders = true := by kernel_rfl
    have hXd : Ext W1 W1.drew := (Ext.refl W1).drew
    have hcp := hide (rowCopy_c q r W1.drew (Sl.ext hr hXd) (by omega))
    have hone := hide (fun (w2 : World) (v2 : Value) (hX : Ext W1 w2) (h2 : OwnR w2 0 v2 q) => by
      obtain ⟨fn, tm, asg, bdy, hy, hR⟩ := yield_in (l := LL) (hY'.out k (q, Jq) #[v2, f] w2 hx ((hJ'.out k).ext _ _ hJk hX) ⟨v2, f, rfl, h2, own_ext hf hX⟩)
      have hR1 : RoundIn (Fence.wide.inRound LL) 0 Tryz.prog l fn tm asg bdy w2 fun e W' => ∃ bv, e = .returned (.bool bv) ∧ RoundBX X w0.heap.size W.heap.size J Jx Fb k w2 bv W' := hR.mono fun e W' h => by
        rcases h with ⟨rfl, h⟩ | ⟨rfl, h⟩
        · exact ⟨true, rfl, fun _ => h, fun e => by cases e⟩
        · exact ⟨false, rfl, (fun e => by cases e), fun _ => h⟩
      exact (⟨fn, tm, asg, bdy, hy, hR1⟩ : ∃ fn tm asg bdy, (Instr.yield l #[v2, f]).run Tryz.prog w2 = .ok (.round l fn tm asg bdy) w2 ∧ RoundIn (Fence.wide.inRound LL) 0 Tryz.prog l fn tm asg bdy w2 fun e W' => ∃ bv, e = .returned (.bool bv) ∧ RoundBX X w0.heap.size W.heap.size J Jx Fb k w2 bv W'))
    obtain ⟨RA, rcap, rfl⟩ := rw_val hr
    obtain ⟨JA, jcap, rfl⟩ := own_form hf
    haveI : In bb W1 := ⟨hlt2⟩
    have hz1b : W.heap.size ≤ w1.heap.size := hz2
    have hzn : w0.heap.size ≤ W1.heap.size := by have := o2.lt; omega
    have hJk' := hide hJk
    have hFk' := hide hFk
    have o2' := hide o2
    clear hr hf hx hJk hFk o2
    gi_wp2
    gi_region_with_o (first | (gi_at_call 43; refine (in_round hcp.out).mono ?_; rintro ee w2 ⟨v2, rfl, ho2, hx2⟩; have hXw := hXd.trans hx2; have k3 := (o2'.out.ext hXw).cell 0 rfl; obtain ⟨C2, c2, q2⟩ := own_form ho2; subst q2; obtain ⟨fn, tm, asg, bdy, hy, hR⟩ := hone.out w2 _ hXw (own_base ho2 (Nat.zero_le _)); replace hR := hide hR) | ((with_reducible refine RoundIn.mono hR.out ?_); rintro ee W3 ⟨bv, rfl, hP⟩))
    all_goals
      cases bv
      · obtain ⟨hj, hk3⟩ := hP.2 rfl
        replace hP := hide hP
        gi_wp2
        exact ⟨keepsF_trans (keeps_ext hXw) (keepsF_mono hk3 hz1b), rfl, hj⟩
      · obtain ⟨hj, hb3, hk3, hf3⟩ := hP.1 rfl
        have hfo := hf3 bb _ _ ((hFb'.out bb).ext _ _ hFk'.out hXw) (o2'.out.ext hXw)
        replace hP := hide hP
        gi_wp2
        exact ⟨keepsF_trans (keeps_ext hXw) (keepsF_mono hk3 hz1b), (belX_fr (S := []) (Fr.of_ext hXw) hzn (by simp)).trans hb3, hj, hfo.1, hfo.2⟩
  case done =>
    rintro D Wd hD ⟨hJn, -, -⟩ hK
    go_wp2
    refine ret_mark hK (results_none rfl _ _ _) ⟨⟨_, rfl⟩, .inl ((hJ'.out _).put _ _ _ _ hJn (by omega) hK rfl)⟩
  case stop =>
    rintro D c k Wd hD hk ⟨rfl, hj⟩ hK
    go_wp2
    refine ret_mark hK (results_none rfl _ _ _) ⟨⟨_, rfl⟩, .inr ⟨k, hk, (hJx'.out _).put _ _ _ _ hj (by omega) hK rfl⟩⟩
end Go.Proofs.YtgniebjigphcgaaGreat
set_option linter.unusedVariables false
set_option linter.unusedSimpArgs false
namespace Go.Proofs.YtgniebjigphcgaaGreat
open Go.RowKit
/-- A lifetime. -/
abbrev Sp := Int × Int
def begL (f : List Jp) : List Int := f.flatMap fun j => List.replicate j.2.toNat j.1
def endL (f : List Jp) : List Int := f.flatMap fun j => List.replicate (-j.2).toNat j.1
theorem begL_snoc (f : List Jp) (j : Jp) : begL (f ++ [j]) = begL f ++ List.replicate j.2.toNat j.1 := by simp [begL]
theorem endL_snoc (f : List Jp) (j : Jp) : endL (f ++ [j]) = endL f ++ List.replicate (-j.2).toNat j.1 := by simp [endL]
/-- How many begin. -/
def cntJ (f : List Jp) : Int := (begL f).length
theorem cntJ_snoc (f : List Jp) (j : Jp) : cntJ (f ++ [j]) = cntJ f + max j.2 0 := by
  unfold cntJ
  rw [begL_snoc, List.length_append, List.length_replicate]
  omega
theorem cntJ_le {f : List Jp} (h : ∀ j ∈ f, j.2 ≤ 1048576) : cntJ f ≤ 1048576 * f.length := by
  induction f with
  | nil => simp [cntJ, begL]
  | cons a r ih =>
    have h1 := ih fun j hj => h j (by simp [hj])
    have h2 := h a (by simp)
    unfold cntJ at h1 ⊢
    unfold begL at h1 ⊢
    rw [List.flatMap_cons, List.length_append, List.length_replicate, List.length_cons]
    omega
theorem len_js (f : List Jp) : ((begL f).length : Int) - (endL f).length = js f := by
  induction f with
  | nil => simp [begL, endL, js]
  | cons a r ih =>
    unfold begL endL at ih ⊢
    rw [List.flatMap_cons, List.flatMap_cons, List.length_append, List.length_append, List.length_replicate, List.length_replicate, js]
    omega
/-- The least value is met nowhere by less. -/
theorem leF_le (f : List Jp) : ∀ (g : List Jp) (m : Int), leF f m g ≤ m ∧ ∀ j ∈ g, leF f m g ≤ jv f j.1
  | [], m => ⟨Int.le_refl _, by simp⟩
  | a :: g, m => by
    obtain ⟨h1, h2⟩ := leF_le f g (min m (jv f a.1))
    have e : leF f m (a :: g) = leF f (min m (jv f a.1)) g := rfl
    rw [e]
    refine ⟨by omega, fun j hj => ?_⟩
    rcases List.mem_cons.1 hj with rfl | hj
    · omega
    · exact h2 j hj
/-- Ahead of each place of a function that is nowhere below 0 no more have ended than have begun. -/
theorem pre_ends {f : List Jp} (hm : mayJ f = true) (h0 : 0 ≤ leV f) (k : Nat) : (endL (f.take k)).length ≤ (begL (f.take k)).length := by
  have hj := len_js (f.take k)
  suffices 0 ≤ js (f.take k) by omega
  have hasc := (mayJ_iff.1 hm).2.2
  unfold leV at h0
  rw [if_pos hm] at h0
  rcases Nat.eq_zero_or_pos k with rfl | hk
  · simp [js]
  rcases Nat.lt_or_ge (k - 1) f.length with hlt | hge
  · obtain ⟨j, hx⟩ : ∃ j, f[k - 1]? = some j := ⟨_, List.getElem?_eq_getElem hlt⟩
    have et : f.take k = f.take (k - 1) ++ [j] := by
      have : k = k - 1 + 1 := by omega
      rw [this, List.take_add_one, hx]; simp
    have ef : f = f.take (k - 1) ++ j :: f.drop k := by
      have h1 := List.take_append_drop (k - 1) f
      have h2 : f.drop (k - 1) = j :: f.drop k := by
        rw [List.drop_eq_getElem_cons hlt]
        have h3 := List.getElem?_eq_getElem hlt
        rw [hx] at h3
        rw [show k - 1 + 1 = k by omega]
        congr 1
        exact (Option.some.inj h3).symm
      rw [h2] at h1
      exact h1.symm
    have hjs := js_at (f1 := f.take (k - 1)) (j := j) (f2 := f.drop k) (by rw [← ef]; exact hasc)
    rw [et, hjs, ← ef]
    have := (leF_le f f (jv f (-1))).2 j (List.mem_of_getElem? hx)
    omega
  · have e1 : f.take k = f := List.take_of_length_le (by omega)
    rw [e1]
    rcases hf : f.reverse with _ | ⟨j, r⟩
    · have : f = [] := by simpa using hf
      rw [this]; simp [js]
    · have ef : f = r.reverse ++ [j] := by rw [← List.reverse_reverse f, hf]; simp
      have hjs := js_at (f1 := r.reverse) (j := j) (f2 := []) (by rw [← ef]; exact hasc)
      rw [← ef] at hjs
      rw [hjs]
      have := (leF_le f f (jv f (-1))).2 j (by rw [ef]; simp)
      omega
/-- The k-th beginning with the k-th end; what has no end has the last one of all. -/
def spL : List Int → List Int → List Sp
  | [], _ => []
  | x :: b, [] => (x, 1125899906842624) :: spL b []
  | x :: b, y :: e => (x, y) :: spL b e
theorem spL_length : ∀ b e : List Int, (spL b e).length = b.length
  | [], _ => rfl
  | x :: b, [] => by rw [spL, List.length_cons, List.length_cons, spL_length b []]
  | x :: b, y :: e => by rw [spL, List.length_cons, List.length_cons, spL_length b e]
theorem spL_get : ∀ (b e : List Int) (i : Nat) (x : Int), b[i]? = some x → (spL b e)[i]? = some (x, (e[i]?).getD 1125899906842624)
  | y :: b, [], 0, x, h => by simp at h; subst h; rfl
  | y :: b, z :: e, 0, x, h => by simp at h; subst h; rfl
  | y :: b, [], i + 1, x, h => by
    have := spL_get b [] i x (by simpa using h)
    simpa [spL] using this
  | y :: b, z :: e, i + 1, x, h => by
    have := spL_get b e i x (by simpa using h)
    simpa [spL] using this
theorem spL_zip : ∀ (b e : List Int), e.length ≤ b.length → spL b e = (b.take e.length).zip e ++ (b.drop e.length).map fun x => (x, 1125899906842624)
  | [], [], _ => rfl
  | [], y :: e, h => by simp at h
  | x :: b, [], _ => by
    have := spL_zip b [] (by simp)
    rw [spL, this]
    simp
  | x :: b, y :: e, h => by
    have := spL_zip b e (by simpa using h)
    rw [spL, this]
    simp
/-- A function's lifetimes. -/
def lifeL (f : List Jp) : List Sp := spL (begL f) (endL f)
/-- What is wrong with a function whose lifetimes are asked for; they. -/
def spE (f : List Jp) : Int := if mayJ f then (if leV f < 0 then 20 else if 4096 < cntJ f then 7 else 0) else 2
def spR (f : List Jp) : List Sp := if spE f = 0 then lifeL f else []
/-- What has been made, and what is open, of beginnings and ends. -/
def madeL (b e : List Int) : List Sp := (b.take e.length).zip e
theorem madeL_begin (b e m : List Int) (h : e.length ≤ b.length) : madeL (b ++ m) e = madeL b e ∧ (b ++ m).drop e.length = b.drop e.length ++ m := by
  unfold madeL
  rw [List.take_append_of_le_length h, List.drop_append_of_le_length h]
  exact ⟨rfl, rfl⟩
theorem madeL_end (b e : List Int) (x a : Int) (r : List Int) (h : b.drop e.length = x :: r) : madeL b (e ++ [a]) = madeL b e ++ [(x, a)] ∧ b.drop (e ++ [a]).length = r := by
  have hlt : e.length < b.length := by
    have := congrArg List.length h
    simp at this
    omega
  have hx : b[e.length]? = some x := by
    have h2 : (b.drop e.length)[0]? = some x := by rw [h]; rfl
    rwa [List.getElem?_drop, Nat.add_zero] at h2
  unfold madeL
  rw [List.length_append, List.length_singleton, List.take_add_one, hx]
  refine ⟨?_, ?_⟩
  · rw [Option.toList_some, List.zip_append (by simp; omega)]
    rfl
  · rw [← List.drop_drop, h]; rfl
theorem life_done (b e : List Int) (h : e.length ≤ b.length) : madeL b (e ++ List.replicate (b.length - e.length) 1125899906842624) = spL b e := by
  rw [spL_zip b e h]
  unfold madeL
  rw [List.length_append, List.length_replicate, List.take_of_length_le (by omega)]
  conv => lhs; rw [← List.take_append_drop e.length b]
  rw [List.zip_append (by simp; omega)]
  congr 1
  have key : ∀ (l : List Int), l.zip (List.replicate l.length 1125899906842624) = l.map fun x => (x, (1125899906842624 : Int)) := by
    intro l
    induction l with
    | nil => rfl
    | cons a l ih => simp only [List.length_cons, List.replicate_succ, List.zip_cons_cons, List.map_cons, ih]
  have := key (b.drop e.length)
  rw [List.length_drop] at this
  rw [List.take_append_drop]
  exact this
end Go.Proofs.YtgniebjigphcgaaGreat
