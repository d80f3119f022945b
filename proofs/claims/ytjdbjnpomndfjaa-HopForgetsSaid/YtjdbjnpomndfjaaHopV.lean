/-
  A helper of ours: no claim of its own. Layer 28 (hop): where windows begin, gathered out of a map of them and put in order, by the code.
-/
import Derived.Test.YtjdbjnpomndfjaaHopQ
import Derived.Test.YtjdbjnpomndfjaaSnaA
set_option linter.unusedVariables false
set_option linter.unusedSimpArgs false
namespace Go.Proofs.Ytjdbjnpomndfjaa
open Go.RowKit
attribute [local go_sem] GW.cell GW.frozen In.eq_true In.le_true In.ne In.ne' In.ne_add In.ne_add' In.lt_add Upto.le_true Upto.le_add Upto.lt_add Oper.semAt_some wide_depth wide_fn
/-- What a map's iterator tells: an event's pointer. -/
def Hky (p : Eh) (vs : Array Value) (W : World) : Prop := vs = #[Value.int .i64 p.1]
theorem Hky.stab {B : Nat} (p : Eh) (vs : Array Value) : Stab B (Hky p vs) := Stab.pure _
set_option maxHeartbeats 8000000 in
set_option maxRecDepth 100000 in
theorem hkeys_seq (X : List Nat) (mb n : Nat) (T : List Eh) (w0 w : World) (b : Nat) (hM : Mv w0 Try.prog 3 kentH mb n T) (hX : Ext w0 w) (hb : Ob w b 95 [.map (some mb)]) (hmX : mb ∉ X) :
    SeqsG Try.prog w0.heap.size X 109 #[.pointer (some ⟨b, 0, none⟩)] Hky T w := by
  intro l J Jx Fb W hW hJ hJx hFb hY h0
  have q0 := (hb.ext hW).cell 0 rfl
  have hbl := (hb.ext hW).lt
  have hml := hM.lt
  have hz0 := hX.size
  have hz1 := hW.size
  have hMW := hide (hM.kept (ext_by (hX.trans hW)) (by simp))
  have hJ' := hide hJ
  have hY' := hide hY
  have h0' := hide h0
  haveI : In b W := ⟨hbl⟩
  clear hJ hJx hY hFb hb hX hW h0 hM
  refine (callsIn_wide (n := 1)).1 ?_
  refine callsIn_of_wp Try.func109 rfl trivial ?_ rfl
  simp only [Try.ntmps109, List.size_toArray, List.length_cons, List.length_nil, Nat.reduceAdd, Nat.reduceSub, Array.replicate_succ, Array.replicate_zero, List.push_toArray, List.append_toArray, List.nil_append, List.cons_append]
  gi_wp2_with (refine wplIn_range rfl (.tmp 4) rfl rfl hKey Try.underlying95 hMW.out ?_; intro w1 hr1 hg1 hs1)
  go_frame
  have hX1 : Ext W w1 := ext_grown (Ext.refl W) hg1 (by simp)
  obtain ⟨r, hrr⟩ : ∃ r, r = W.heap.size := ⟨_, rfl⟩
  rw [← hrr] at hr1 ⊢
  have hJ1 := hide ((hJ'.out []).ext _ _ h0'.out hX1)
  have hB1 := hide (belX_fr (X := X) (n₀ := w0.heap.size) (S := []) (Fr.of_ext hX1) (by omega) (by simp))
  have hrle : w0.heap.size ≤ r := by omega
  replace hr1 := hide hr1
  clear hg1 hs1 hX1 h0'
  replace hrr := hide hrr
  gi_loopg [3] T.length (fun gh z wr => ∃ (D L : List Eh), L.length = gh ∧ Hid (T.Perm (D ++ L)) ∧ Hid (Rgv wr Try.prog 3 kentH mb r n T L) ∧ Hid (J D wr) ∧ Hid (BelX w0.heap.size X W wr))
  case atStart => exact ⟨[], T, rfl, List.Perm.refl _, hr1, hJ1, hB1⟩
  case round =>
    clear hr1 hJ1 hB1
    obtain ⟨D, L, hL, hp0, hRv, hJD, hBx⟩ := hrel
    gi_wp2_with (refine wplIn_next rfl (.tmp 5) rfl rfl hKey hRv.out ?_ ?_)
    · intro hl0
      subst hl0
      have hD := hide (show D.Perm T by have := hp0.out; rw [List.append_nil] at this; exact this.symm)
      clear hRv hp0
      gi_wp2
      go_end0
      exact ⟨⟨_, rfl⟩, .inl ⟨D, hD.out, hJD.out⟩⟩
    · intro key qt qv qc L' w4 hkey hq hp hR4 hg4 hs4 hen
      obtain ⟨q, hqe⟩ : ∃ q : Eh, q = (qt, qv, qc) := ⟨_, rfl⟩
      rw [← hqe] at hkey hq hp hen ⊢
      obtain ⟨x, hkx, hkl, -⟩ := Go.Maps.keyOf_int_inv Try.underlying3 hkey
      obtain rfl : qt = x := by rw [hqe] at hkl; unfold kentH at hkl; simpa using hkl
      subst hkx
      have hE : (kentH q).2 = q.2.1 := rfl
      rw [hE] at hen ⊢
      have hlen : L'.length + 1 = L.length := by rw [hp.length_eq]; rfl
      have hJ4 := hide (next_stab (hJ'.out D) hJD.out hg4 hs4 (by rw [hrr.out]; exact Nat.le_refl _) hRv.out.iter)
      have hB4 := hide (hBx.out.trans (belX_fr (X := X) (n₀ := w0.heap.size) (S := [r]) ((Fr.refl [r] wr).grown hg4 (fun k hk => by obtain rfl := Option.some.inj hk; exact .inl (by simp))) (by have := hBx.out.size; omega) (by intro y hy; simp only [List.mem_singleton] at hy; subst hy; exact .inl hrle)))
      have hpn := hide (show T.Perm (D ++ q :: L') from hp0.out.trans ((List.Perm.refl D).append hp))
      obtain ⟨fn, tmps, assign, body, hy, hRd⟩ := hY'.out D q #[.int .i64 q.1] w4 ⟨L', hpn.out⟩ hJ4.out rfl
      rw [show q.1 = qt by rw [hqe]] at hy
      have hR5 := hide hR4
      have hB5 := hB4
      replace hRd := hide hRd
      clear hkey hq hp hR4 hg4 hs4 hRv hE hJ4 hB4 hBx hJD hp0 hkl
      gi_wp2
      refine hRd.out.mono ?_
      rintro e W3 (⟨rfl, hJ3, hB3, hK3, -⟩ | ⟨rfl, hJx3, -⟩)
      · have hR3 : Rgv W3 Try.prog 3 kentH mb r n T L' := by
          obtain ⟨o, ho, hc⟩ := hR5.out.iter
          refine hR5.out.of_blocks (hB3.block mb hml hmX) ?_
          rw [ho]
          exact hK3.same r o (by rw [hrr.out]; exact Nat.le_refl _) ho hc
        replace hR3 := hide hR3
        replace hJ3 := hide hJ3
        have hB6 := hide (hB5.out.trans hB3)
        clear hB3 hK3
        gi_wp2
        gi_roundg L'.length
        case measure => omega
        case rel => exact ⟨D ++ [q], L', rfl, (by show List.Perm _ _; rw [List.append_assoc]; exact hpn.out), hR3, hJ3, hB6⟩
      · replace hJx3 := hide hJx3
        gi_wp2
        refine bodyPost_ret (results_none rfl _ _ _) rfl ?_
        exact ⟨⟨_, rfl⟩, .inr ⟨_, hJx3.out⟩⟩
abbrev OwnKy (w : World) (base : Nat) (v : Value) (D : List Eh) : Prop := OwnZ w base v (D.map Prod.fst)
abbrev IAk (w : World) (b2 B0 : Nat) (T : List Eh) (D : List Eh) (W : World) : Prop :=
  (∃ mv, Ob W b2 25 [mv] ∧ OwnKy W B0 mv D) ∧ ((∃ L', T.Perm (D ++ L')) ∧ (Ext w W ∧ B0 ≤ W.heap.size))
theorem IAk.stab (w : World) (b2 B0 : Nat) (T D : List Eh) (C : Nat) (hC : w.heap.size ≤ C) : Stab C (IAk w b2 B0 T D) :=
  (Stab.ex fun mv => (Stab.ob _ _ _).and (Stab.own _ _ _ _ _ _)).and ((Stab.pure _).and ((Stab.of_ext hC).and ⟨fun A C h e => Nat.le_trans h e.size, fun A l o o' h _ _ _ => by simpa using h⟩))
set_option maxHeartbeats 8000000 in
set_option maxRecDepth 100000 in
theorem happendSeq_c (mb n : Nat) (T : List Eh) (b : Nat) (w : World) (hM : Mv w Try.prog 3 kentH mb n T) (hb : Ob w b 95 [.map (some mb)]) (hT : T.length ≤ 1000000) : Calls Try.prog 130 #[.slice none 0 0, .func (.func 109) #[] #[.pointer (some ⟨b, 0, none⟩)]] w fun e w' => ∃ v' D, e = .returned v' ∧ D.Perm T ∧ OwnKy w' w.heap.size v' D ∧ Ext w w' := by
  have hml := hM.lt
  obtain ⟨W0, hW0⟩ : ∃ W0, W0 = w.alloc (.cells #[.slice none 0 0] 25) := ⟨_, rfl⟩
  have hX0 : Ext w W0 := by rw [hW0]; exact (Ext.refl w).alloc _
  have p2 : Ob W0 w.heap.size 25 [.slice none 0 0] := by rw [hW0]; exact Ob.new w _ _
  have hM0 : Mv W0 Try.prog 3 kentH mb n T := hM.kept (ext_by hX0) (by simp)
  have hseq := hkeys_seq [w.heap.size] mb n T W0 W0 b hM0 (Ext.refl _) (hb.ext hX0) (by simp; omega)
  have hzw := hX0.size
  have hb2l := p2.lt
  have hW0s : W0.heap.size = w.heap.size + 1 := by rw [hW0]; simp
  rw [hW0s] at hseq
  refine calls_marks Try.func130 rfl ?_
  simp only [Try.ntmps130, List.size_toArray, List.length_cons, List.length_nil, Nat.reduceAdd, Nat.reduceSub, Array.replicate_succ, Array.replicate_zero, List.push_toArray, List.append_toArray, List.nil_append, List.cons_append]
  go_wp2_with fail
  rw [← hW0]
  refine wp_rangeG (X := [w.heap.size]) (xs := T) rfl (enters_of Try.func109 (by kernel_rfl) rfl) hseq (Ext.refl _) (by omega) (fun x vs W h => by rw [h]; rfl) (fun x vs => Hky.stab x vs)
    (fun _ _ => False) (fun b => Stab.pure _) (IAk w w.heap.size (w.heap.size + 1) T) (fun c D W => False)
    (fun D => IAk.stab w _ _ T D _ hzw) (fun c D => Stab.pure _)
    ⟨⟨_, p2, World.ownsRow_nil _ _ _ _⟩, ⟨T, by simp⟩, hX0, by omega⟩
    (fun D x vs a' W => a' = { tmps := #[.slice none 0 0, .func (.func 109) #[] #[.pointer (some ⟨b, 0, none⟩)], .pointer (some ⟨w.heap.size, 0, none⟩), undef, .slice none 0 0, (.int .i64 x.1), .func (.func 109) #[] #[.pointer (some ⟨b, 0, none⟩)], (.int .i64 x.1), undef, undef, undef, undef, undef], defers := [] })
    (fun D x vs a' => Stab.pure _) ?assign ?body ?done ?stop
  case assign =>
    rintro LL D x vs W K _ rfl hK
    gi_wp2
    exact hK _ _ (Ext.refl _) rfl
  case body =>
    rintro LL D x vs a' W ⟨L', hp⟩ ⟨⟨mv, o2, ho⟩, -, hXk, h1W⟩ rfl rfl
    have k2 := o2.cell 0 rfl
    have hDl : D.length < 1000000 := by have := hp.length_eq; rw [List.length_append, List.length_cons] at this; omega
    have hDm : (D.map Prod.fst).length = D.length := List.length_map _
    unfold OwnKy OwnZ at ho
    rw [hDm] at ho
    have hno := Ob.not_own o2 ho (by decide)
    have hp' := hide hp
    have hobg := ob_ge ho
    obtain ⟨MA, mcap, rfl⟩ := own_form ho
    have ho' := hide ho
    have o2' := hide o2
    have hXk' := hide hXk
    clear ho o2 hXk hp
    gi_wp2_with (refine wplIn_app tZ rfl (.tmp 8) (.tmp 10) rfl rfl (own_ext ho'.out ((Ext.refl W).alloc _)) rfl (src_one Try.underlying25 W _ _ rfl) (by unfold maxLen; omega) (by omega) (by simp only [World.size_alloc]; omega) ?_; intro v8 w8 ho8 hg8 hob8; have o8 := (o2'.out.alloc (.cells #[(.int .i64 x.1)] 3)).grown hg8 (Ne.symm hno); have k8 := o8.cell 0 rfl; have fr8 := o8.free 0; have l8 := o8.lt; haveI : In w.heap.size w8 := ⟨l8⟩; replace o8 := hide o8; obtain ⟨A8, c8, q8⟩ := own_form ho8; subst q8)
    have hS : ∀ y ∈ w.heap.size :: ob (.slice MA D.length mcap), y = w.heap.size ∨ w.heap.size + 1 ≤ y := fun y hy => (List.mem_cons.1 hy).imp id (fun h => (hobg y h).1)
    have hF : Fr (w.heap.size :: ob (.slice MA D.length mcap)) W (w8.setCell ⟨w.heap.size, 0, none⟩ (.slice A8 (D.length + 1) c8)) := ((((Fr.refl _ W).alloc _).grown hg8 (fun k hk => .inl (List.mem_cons_of_mem _ (by unfold ob; rw [show (Value.slice MA D.length mcap).ownBlock = some k from hk]; exact List.mem_singleton.2 rfl)))).setCell ⟨w.heap.size, 0, none⟩ _ (.inl (by simp)))
    have hown : OwnKy (w8.setCell ⟨w.heap.size, 0, none⟩ (.slice A8 (D.length + 1) c8)) (w.heap.size + 1) (.slice A8 (D.length + 1) c8) (D ++ [x]) := by
      have h1 := own_fr ho8 ((Fr.refl [w.heap.size] w8).setCell ⟨w.heap.size, 0, none⟩ (.slice A8 (D.length + 1) c8) (.inl (by simp))) (by simp)
      unfold OwnKy
      rw [List.map_append]
      refine own_appZ ?_
      rw [hDm]
      exact h1
    have o9 := o8.out.set 0 (.slice A8 (D.length + 1) c8)
    refine ⟨keeps_fr hF (fun y hy => ?_), belX_fr hF h1W (fun y hy => ?_), ⟨⟨_, o9, hown⟩, ⟨L', by rw [List.append_assoc]; exact hp'.out⟩, ext_fr hXk'.out hF (fun y hy => by have := hS y hy; omega), Nat.le_trans h1W hF.size⟩, fun _ _ _ h => h.elim⟩
    · rcases List.mem_cons.1 hy with rfl | hy
      · exact ⟨_, _, o2'.out⟩
      · exact ob_obj ho'.out y hy
    · rcases hS y hy with h | h
      · exact .inr (by simp [h])
      · exact .inl h
  case done =>
    rintro Dd D W hD hDp ⟨⟨mv, o2, ho⟩, -, hXk, h1W⟩ hK
    have k2 := o2.cell 0 rfl
    have hDm : (D.map Prod.fst).length = D.length := List.length_map _
    unfold OwnKy OwnZ at ho
    rw [hDm] at ho
    obtain ⟨MA, mcap, rfl⟩ := own_form ho
    have ho' := hide ho
    have hXk' := hide hXk
    have hK' := hide hK
    have hDp' := hide hDp
    clear ho hXk hK hDp
    go_wp2_with fail
    refine ret_mark hK'.out (v := .slice MA D.length mcap) (by simp [results, Try.f130, go_sem]) ⟨_, D, rfl, hDp'.out, ?_, put_ext hXk'.out (by omega) _⟩
    have h1 := (Stab.own (B := 0) _ _ _ _ _ _).put _ Dd _ (.deferred none) ho'.out (Nat.zero_le _) hK'.out rfl
    have h2 := own_base (B' := w.heap.size) h1 (by omega)
    unfold OwnKy OwnZ
    rw [hDm]
    exact h2
  case stop =>
    rintro D c k W _ h
    exact h.elim
set_option maxHeartbeats 2000000 in
theorem hkeysFn_c (mb : Nat) (w : World) : Calls Try.prog 71 #[.map (some mb)] w fun e w' => e = .returned (.func (.func 109) #[] #[.pointer (some ⟨w.heap.size, 0, none⟩)]) ∧ Ob w' w.heap.size 95 [.map (some mb)] ∧ Ext w w' := by
  have o := hide (Ob.new w 95 [.map (some mb)])
  go_enter Try.func71, Try.ntmps71
  go_wp2_with fail
  go_returns
  exact ⟨rfl, o.out, (Ext.refl w).alloc _⟩
set_option maxHeartbeats 2000000 in
theorem hcollectKeys_c (mb n : Nat) (T : List Eh) (b : Nat) (w : World) (hM : Mv w Try.prog 3 kentH mb n T) (hb : Ob w b 95 [.map (some mb)]) (hT : T.length ≤ 1000000) : Calls Try.prog 108 #[.func (.func 109) #[] #[.pointer (some ⟨b, 0, none⟩)]] w fun e w' => ∃ v' D, e = .returned v' ∧ D.Perm T ∧ OwnKy w' w.heap.size v' D ∧ Ext w w' := by
  have h1 := hide (happendSeq_c mb n T b w hM hb hT)
  clear hM hb
  go_enter Try.func108, Try.ntmps108
  go_wp2_with (go_at_call 130; refine h1.out.mono ?_; rintro ee w1 ⟨v1, D, rfl, hD, ho, hX⟩; (unfold OwnKy OwnZ at ho; rw [List.length_map] at ho); obtain ⟨A1, c1, rfl⟩ := own_form ho; replace ho := hide ho; replace hX := hide hX; replace hD := hide hD)
  go_returns
  exact ⟨_, D, rfl, hD.out, by unfold OwnKy OwnZ; rw [List.length_map]; exact ho.out, hX.out⟩
end Go.Proofs.Ytjdbjnpomndfjaa
