/-
  A helper of ours: no claim of its own. Layer 24 (multi): Put, Count, Of by the code.
-/
import Derived.Test.YtnneicdphlidhaaMulI
set_option linter.unusedVariables false
set_option linter.unusedSimpArgs false
namespace Go.Proofs.Ytnneicdphlidhaa
open Go.RowKit
attribute [local go_sem] GW.cell GW.frozen In.eq_true In.le_true In.ne In.ne' In.ne_add In.ne_add' In.lt_add Upto.le_true Upto.le_add Upto.lt_add
/-- What Put answers; the list and the count behind it. -/
def putE (k n : Int) (l : List Tg) (c : Int) : Int := if n > 1048576 ∨ n < -1048576 then 2 else if ofT k l + n < 0 then 20 else if c + n > 1048576 then 7 else 0
def putL (k n : Int) (l : List Tg) (c : Int) : List Tg := if putE k n l c = 0 then chgT k (ofT k l) (ofT k l + n) (ltN k l) l else l
def putC (k n : Int) (l : List Tg) (c : Int) : Int := if putE k n l c = 0 then c + n else c
theorem ofT_lt {k : Int} {l : List Tg} (h : 0 < ofT k l) : ltN k l < l.length := by
  unfold ofT at h
  split at h
  · cases e : l[ltN k l]? with
    | none => rw [e] at h; simp at h
    | some p => exact (List.getElem?_eq_some_iff.1 e).1
  · simp at h
set_option maxHeartbeats 8000000 in
set_option maxRecDepth 100000 in
theorem mput_c (k n : Int) (base b : Nat) (v : Value) (l : List Tg) (c : Int) (w : World) (hm : Mu w base b v l c) (hr : RiseT l) (hl : l.length ≤ 1048576) (hc : 0 ≤ c ∧ c ≤ 1048576) (ho : 0 ≤ ofT k l ∧ ofT k l ≤ 1048576) (S : List Nat) (hb : b ∈ S) (hS : ∀ x, v.ownBlock = some x → x ∈ S) (hSw : ∀ x, x ∈ S → x < w.heap.size) :
    Calls Try.prog 12 #[.pointer (some ⟨b, 0, none⟩), .int .i64 k, .int .i64 n] w fun e w' => e = .returned (.int .i64 (putE k n l c)) ∧ ∃ v', Mu w' base b v' (putL k n l c) (putC k n l c) ∧ Fr S w w' ∧ ∀ x, v'.ownBlock = some x → x ∈ S ∨ w.heap.size ≤ x := by
  have m2 := hm.ob.cell 2 rfl
  have ml := hm.ob.lt
  haveI : In b w := ⟨ml⟩
  have hSh := hide hS
  have hbh := hide hb
  have hfind := hide (mfind_c k l hr hl base b v c w hm)
  have hmh := hide hm
  have hchg := hide (fun w' (hX : Ext w w') => mchange_c k base b (ltN k l) v l c (ofT k l) (ofT k l + n) w' (hm.ext hX) hl (ltN_le k l) ofT_lt S hb hS (fun x hx => Nat.lt_of_lt_of_le (hSw x hx) hX.size))
  have hC : putC k n l c = if putE k n l c = 0 then c + n else c := rfl
  have hL : putL k n l c = if putE k n l c = 0 then chgT k (ofT k l) (ofT k l + n) (ltN k l) l else l := rfl
  have hE : putE k n l c = if n > 1048576 ∨ n < -1048576 then 2 else if ofT k l + n < 0 then 20 else if c + n > 1048576 then 7 else 0 := rfl
  rw [hC, hL, hE]
  clear hC hL hE hm hS hb hSw hr
  obtain ⟨o, hoo⟩ : ∃ o, o = ofT k l := ⟨_, rfl⟩
  obtain ⟨p, hpp⟩ : ∃ p, p = ltN k l := ⟨_, rfl⟩
  rw [← hoo] at ho hfind hchg ⊢
  rw [← hpp] at hfind hchg ⊢
  clear hoo hpp
  by_cases h1 : n > 1048576
  · have h2 : ¬ n < -1048576 := by omega
    rw [if_pos (.inl h1)]
    go_enter Try.func12, Try.ntmps12
    go_wp2_with fail
    go_returns
    exact ⟨rfl, v, hmh.out, Fr.refl S w, fun x hx => .inl (hSh.out x hx)⟩
  · by_cases h2 : n < -1048576
    · rw [if_pos (.inr h2)]
      go_enter Try.func12, Try.ntmps12
      go_wp2_with fail
      go_returns
      exact ⟨rfl, v, hmh.out, Fr.refl S w, fun x hx => .inl (hSh.out x hx)⟩
    · rw [if_neg (by omega)]
      by_cases h3 : o + n < 0
      · rw [if_pos h3, if_neg (by decide), if_neg (by decide)]
        go_enter Try.func12, Try.ntmps12
        go_wp2_with (go_at_call 32; (with_reducible refine seq_gw hfind.out ?_); intro g1)
        go_returns
        exact ⟨rfl, v, hmh.out.ext g1.grown, Fr.of_ext g1.grown, fun x hx => .inl (hSh.out x hx)⟩
      · rw [if_neg h3]
        by_cases h4 : c + n > 1048576
        · rw [if_pos h4, if_neg (by decide), if_neg (by decide)]
          go_enter Try.func12, Try.ntmps12
          go_wp2_with (go_at_call 32; (with_reducible refine seq_gw hfind.out ?_); intro g1)
          go_returns
          exact ⟨rfl, v, hmh.out.ext g1.grown, Fr.of_ext g1.grown, fun x hx => .inl (hSh.out x hx)⟩
        · rw [if_neg h4, if_pos rfl, if_pos rfl]
          obtain ⟨L', hL'⟩ : ∃ L', L' = chgT k o (o + n) p l := ⟨_, rfl⟩
          rw [← hL'] at hchg ⊢
          clear hL'
          go_enter Try.func12, Try.ntmps12
          go_wp2_with (first | (go_at_call 32; (with_reducible refine seq_gw hfind.out ?_); intro g1) | (go_at_call 33; (refine (hchg.out _ g1.grown).mono ?_; rintro ee w3 ⟨rfl, v3, hM3, hF3, hv3⟩; have q1 := hM3.ob.cell 2 rfl; have q2 := hM3.ob.free 2; haveI : In b w3 := ⟨hM3.ob.lt⟩; replace hM3 := hide hM3; replace hF3 := hide hF3; replace hv3 := hide hv3)))
          go_returns
          refine ⟨rfl, v3, ⟨hM3.out.ob.set 2 _, mown_far hM3.out.own 2 _ (hM3.out.ob.not_own hM3.out.own (by decide)), hM3.out.le⟩, ((Fr.of_ext g1.grown).trans hF3.out).setCell _ _ (.inl hbh.out), fun x hx => ?_⟩
          rcases hv3.out x hx with e | e
          · exact .inl e
          · exact .inr (Nat.le_trans g1.grown.size e)
set_option maxHeartbeats 4000000 in
set_option maxRecDepth 100000 in
theorem mof_c (k : Int) (l : List Tg) (hr : RiseT l) (hl : l.length ≤ 1048576) (base b : Nat) (v : Value) (c : Int) (w : World) (hm : Mu w base b v l c) :
    Calls Try.prog 17 #[.pointer (some ⟨b, 0, none⟩), .int .i64 k] w fun e w' => e = .returned (.int .i64 (ofT k l)) ∧ Ext w w' := by
  have ml := hm.ob.lt
  haveI : In b w := ⟨ml⟩
  have hfind := hide (mfind_c k l hr hl base b v c w hm)
  clear hm hr
  generalize ofT k l = o at *
  generalize ltN k l = p at *
  go_enter Try.func17, Try.ntmps17
  go_wp2_with (go_at_call 32; (with_reducible refine seq_gw hfind.out ?_); intro g1)
  go_returns
  exact ⟨rfl, g1.grown⟩
theorem mcount_c (l : List Tg) (base b : Nat) (v : Value) (c : Int) (w : World) (hm : Mu w base b v l c) :
    Calls Try.prog 16 #[.pointer (some ⟨b, 0, none⟩)] w fun e w' => e = .returned (.int .i64 c) ∧ Ext w w' := by
  have m2 := hm.ob.cell 2 rfl
  have ml := hm.ob.lt
  haveI : In b w := ⟨ml⟩
  clear hm
  go_enter Try.func16, Try.ntmps16
  go_wp2_with fail
  go_returns
  exact ⟨rfl, Ext.refl w⟩
end Go.Proofs.Ytnneicdphlidhaa
