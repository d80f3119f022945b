/-
  A helper of ours: no claim of its own. Layer 28 (hop): the iterator of windows, where its consumer tells what it reads; where a function's value ends; how often a row belongs to a window.
-/
import Derived.Test.YtjdbjnpomndfjaaHopK
import Derived.Test.YtjdbjnpomndfjaaHopD
import Derived.Test.YtjdbjnpomndfjaaStepC
import Derived.Sort.LoopGhostIn
set_option linter.unusedVariables false
set_option linter.unusedSimpArgs false
namespace Go.Proofs.Ytjdbjnpomndfjaa
open Go.RowKit
attribute [local go_sem] GW.cell GW.frozen In.eq_true In.le_true In.ne In.ne' In.ne_add In.ne_add' In.lt_add Upto.le_true Upto.le_add Upto.lt_add Oper.semAt_some wide_depth wide_fn
/-- What the iterator of windows reads. -/
def KpW (s h f r a e : Int) (ba be bw : Nat) (A : World) : Prop := Ob A ba 3 [.int .i64 a] ∧ (Ob A be 3 [.int .i64 e] ∧ Ob A bw 87 [.int .i64 s, .int .i64 h, .int .i64 f, .int .i64 r])
theorem KpW.stab (B : Nat) (s h f r a e : Int) (ba be bw : Nat) : Stab B (KpW s h f r a e ba be bw) := (Stab.ob _ _ _).and ((Stab.ob _ _ _).and (Stab.ob _ _ _))
set_option maxHeartbeats 8000000 in
set_option maxRecDepth 100000 in
theorem sharing_seqk (s h f r a e : Int) (w : World) (ba be bw : Nat) (hh : hlen h = true) (ha : 0 ≤ a ∧ a ≤ 1125899906842624) (he : e ≤ 1125899906842624) :
    SeqsK (KpW s h f r a e ba be bw) Try.prog 101 #[.pointer (some ⟨ba, 0, none⟩), .pointer (some ⟨be, 0, none⟩), .pointer (some ⟨bw, 0, none⟩)] Hwin (hT h a e) w := by
  intro l J Jx W hW hJ hJx hCl hK hY h0
  obtain ⟨h1, h2⟩ := hlen_iff.1 hh
  obtain ⟨a1, a2⟩ := ha
  have hK0 := hK 0 W h0
  have qa := hK0.1.cell 0 rfl
  have la := hK0.1.lt
  have hK' := hide hK
  have hJ' := hide hJ
  have hY' := hide hY
  have h0' := hide h0
  haveI : In ba W := ⟨la⟩
  clear hJ hY hW hJx h0 hK hCl hK0
  refine (callsIn_wide (n := 1)).1 ?_
  refine callsIn_of_wp Try.func101 rfl trivial ?_ rfl
  simp only [Try.ntmps101, List.size_toArray, List.length_cons, List.length_nil, Nat.reduceAdd, Nat.reduceSub, Array.replicate_succ, Array.replicate_zero, List.push_toArray, List.append_toArray, List.nil_append, List.cons_append]
  gi_wp2
  gi_loopg [5] (hN h a e) (fun gh t wr => ∃ (i : Nat) (P : Int), t = .int .i64 P ∧ Hid (a + (i : Int) * h = P) ∧ i + gh = hN h a e ∧ Hid (J i wr))
  case atStart => exact ⟨0, a, rfl, by show _ = _; simp, by omega, h0'⟩
  case round =>
    obtain ⟨i, P, rfl, hP, hi, hJk⟩ := hrel
    clear h0' qa
    obtain ⟨-, oe2, ow2⟩ := hK'.out i wr hJk.out
    have qe := oe2.cell 0 rfl
    haveI : In be wr := ⟨oe2.lt⟩
    have hlt := hN_lt (a := a) (e := e) h1 i
    rw [hP.out] at hlt
    by_cases hk : P < e
    · have hil : i < hN h a e := hlt.2 hk
      have hat := hT_at hil
      rw [hP.out] at hat
      have hPa : a ≤ P := by rw [← hP.out]; have : 0 ≤ (i : Int) * h := Int.mul_nonneg (by omega) (by omega); omega
      have hPn := hide (show a + ((i + 1 : Nat) : Int) * h = P + h by rw [← hP.out]; rw [show ((i + 1 : Nat) : Int) = (i : Int) + 1 by omega, Int.add_mul, Int.one_mul]; omega)
      obtain ⟨fn, tmps, assign, body, hy, hRd⟩ := hY'.out i P #[.int .i64 P] wr hat hJk.out rfl
      replace hRd := hide hRd
      replace hat := hide hat
      clear hlt ow2 oe2
      gi_wp2
      refine hRd.out.mono ?_
      rintro ee W3 (⟨rfl, hJ3, -, -⟩ | ⟨rfl, hJx3, -⟩)
      · have ow3 := (hK'.out (i + 1) W3 hJ3).2.2
        replace hJ3 := hide hJ3
        have qh := ow3.cell 1 rfl
        haveI : In bw W3 := ⟨ow3.lt⟩
        clear ow3 qe
        gi_wp2
        gi_roundg (hN h a e - (i + 1))
        case measure => omega
        case rel => exact ⟨i + 1, P + h, by go_num, hPn.out, by omega, hJ3⟩
      · replace hJx3 := hide hJx3
        clear qe
        gi_wp2
        refine bodyPost_ret (results_none rfl _ _ _) rfl ?_
        exact ⟨⟨_, rfl⟩, .inr ⟨i + 1, by rw [hT_len]; omega, hJx3.out⟩⟩
    · have hil : i = hN h a e := by have := fun hh => hk (hlt.1 hh); omega
      have hJd := hide (show J (hT h a e).length wr by rw [hT_len, ← hil]; exact hJk.out)
      clear hlt hJk
      gi_wp2
      go_end0
      exact ⟨⟨_, rfl⟩, .inl hJd.out⟩
/-- Where the value that a function has from a jump on ends. -/
def hnxJ (J : List Jp) (i : Nat) : Int := (J[i + 1]?.map Prod.fst).getD 1125899906842624
set_option maxHeartbeats 4000000 in
set_option maxRecDepth 100000 in
theorem hnext_c (J : List Jp) (i : Nat) (hi : i < J.length) (hl : J.length ≤ 1000000) (v : Value) (w : World) (h : Jw w [] v J) : Calls Try.prog 129 #[v, .int .i64 i] w fun e w' => e = .returned (.int .i64 (hnxJ J i)) ∧ Ext w w' := by
  obtain ⟨A, cap, rfl, hlc, hlm, hat⟩ := jw_form h
  clear h
  unfold hnxJ
  by_cases hn : i + 1 = J.length
  · have e0 : J[i + 1]? = none := List.getElem?_eq_none (by omega)
    rw [e0]
    have hb : ((i : Int) + 1 == (J.length : Int)) = true := by simp; omega
    clear hat
    go_enter Try.func129, Try.ntmps129
    go_wp2_with fail
    all_goals
      go_returns
      exact ⟨rfl, Ext.refl _⟩
  · obtain ⟨⟨x, y⟩, hx⟩ : ∃ x, J[i + 1]? = some x := ⟨_, List.getElem?_eq_getElem (by omega)⟩
    obtain ⟨b, o, rfl, -, hb, c0, c1⟩ := hat _ _ hx
    rw [hx]
    have hbn : ((i : Int) + 1 == (J.length : Int)) = false := by simp; omega
    haveI : In b w := ⟨hb⟩
    have hlt : i + 1 < J.length := by omega
    simp only at c0
    clear hat hx hn
    go_enter Try.func129, Try.ntmps129
    go_wp2_with fail
    all_goals
      go_returns
      exact ⟨rfl, Ext.refl _⟩
/-- How often a row with a function belongs to a window. -/
def cpS (J : List Jp) (a b : Int) : Int := ((J.filter fun j => decide (a < j.1) && decide (j.1 < b)).map fun j => max j.2 0).sum
def copN (J : List Jp) (a b : Int) : Int := atV J a + cpS J a b
theorem cpS_snoc (J : List Jp) (j : Jp) (a b : Int) : cpS (J ++ [j]) a b = cpS J a b + (if a < j.1 ∧ j.1 < b then max j.2 0 else 0) := by
  unfold cpS
  rw [List.filter_append, List.map_append, List.sum_append]
  congr 1
  by_cases h : a < j.1 ∧ j.1 < b
  · rw [if_pos h, List.filter_cons_of_pos (by simp [h])]; simp
  · rw [if_neg h, List.filter_cons_of_neg (by simpa using h)]; simp
theorem cpS_next {J : List Jp} {k : Nat} {j : Jp} (h : J[k]? = some j) (a b : Int) : cpS (J.take (k + 1)) a b = cpS (J.take k) a b + (if a < j.1 ∧ j.1 < b then max j.2 0 else 0) := by
  rw [List.take_add_one, h]; exact cpS_snoc _ _ _ _
theorem cpS_in {J : List Jp} (hb : ∀ j ∈ J, -1048576 ≤ j.2 ∧ j.2 ≤ 1048576) (a b : Int) : ∀ k, k ≤ J.length → 0 ≤ cpS (J.take k) a b ∧ cpS (J.take k) a b ≤ 1048576 * k
  | 0, _ => by simp [cpS]
  | k + 1, hk => by
    obtain ⟨i1, i2⟩ := cpS_in hb a b k (by omega)
    have hx : J[k]? = some (J[k]'(by omega)) := List.getElem?_eq_getElem (by omega)
    have := hb _ (List.mem_of_getElem? hx)
    rw [cpS_next hx]
    split <;> constructor <;> omega
set_option maxHeartbeats 8000000 in
set_option maxRecDepth 100000 in
theorem hcopies_c (J : List Jp) (hm : mayJ J = true) (a b : Int) (v : Value) (w : World) (h : Jw w [] v J) : Calls Try.prog 107 #[v, .agg #[.int .i64 a, .int .i64 b]] w fun e w' => e = .returned (.int .i64 (copN J a b)) ∧ Ext w w' := by
  have hJl : J.length ≤ 1024 := mayJ_len hm
  have hjb := hide (mayJ_net hm)
  have hav := mayJ_jv hm a
  rw [← atV_of hm] at hav
  have hat := hide (fun w' (hX : Ext w w') => stepAt_c J a v w' (Sl.ext h hX))
  obtain ⟨A, cap, rfl, hlc, hlm, -⟩ := jw_form h
  have h' := hide h
  clear h
  obtain ⟨V, hV⟩ : ∃ V, V = atV J a := ⟨_, rfl⟩
  have hres : copN J a b = V + cpS J a b := by rw [hV]; rfl
  rw [hres]
  rw [← hV] at hat hav
  replace hV := hide hV
  clear hres
  have ob0 := Ob.new w 36 [.int .i64 a, .int .i64 b]
  have hX0 := hide ((Ext.refl w).alloc (.cells #[.int .i64 a, .int .i64 b] 36))
  have ob1 := hide ob0
  clear ob0
  go_enter Try.func107, Try.ntmps107
  go_wp2_with (go_at_call 98; (with_reducible refine seq_gw (hat.out _ hX0.out) ?_); intro g1)
  have hXg := hide (hX0.out.trans g1.grown)
  have obg := hide (ob1.out.ext g1.grown)
  go_loopg [5, 14] J.length (fun gh n i wr => ∃ (k : Nat), i = .int .i64 k ∧ n = .int .i64 (V + cpS (J.take k) a b) ∧ k + gh = J.length ∧ Hid (Ext g1.val wr))
  case atStart => exact ⟨0, by go_num, by simp [cpS], by omega, Ext.refl _⟩
  case round =>
    obtain ⟨k, rfl, rfl, hk, hX⟩ := hrel
    by_cases hlt : k < J.length
    · obtain ⟨⟨x, y⟩, hx⟩ : ∃ x, J[k]? = some x := ⟨_, List.getElem?_eq_getElem hlt⟩
      obtain ⟨A', cap', e', -, -, hatj⟩ := jw_form (Sl.ext h'.out (hXg.out.trans hX.out))
      simp only [Value.slice.injEq] at e'
      obtain ⟨rfl, -, rfl⟩ := e'
      obtain ⟨bj, o, rfl, -, hbl, c0, c1⟩ := hatj _ _ hx
      simp only at c0 c1
      have hnx := cpS_next hx a b
      have hin := cpS_in hjb.out a b k (by omega)
      have hy := hjb.out _ (List.mem_of_getElem? hx)
      simp only at hy hnx
      generalize cpS (J.take k) a b = S at *
      haveI : In bj wr := ⟨hbl⟩
      have obr := obg.out.ext hX.out
      have s0 := obr.cell 0 rfl
      have s1 := obr.cell 1 rfl
      have slt := obr.lt
      haveI : In w.heap.size wr := ⟨slt⟩
      clear hatj hx obr
      replace hnx := hide hnx
      by_cases c1' : a < x
      · by_cases c2' : x < b
        · have hnx2 := hide (show cpS (J.take (k + 1)) a b = S + max y 0 by rw [hnx.out, if_pos ⟨c1', c2'⟩])
          go_wp2_with fail
          all_goals
            go_roundg (J.length - (k + 1))
            case measure => omega
            case rel => exact ⟨k + 1, by go_num, by rw [hnx2.out]; first | rfl | (congr 1; omega) | go_num, by omega, hX.out.alloc _⟩
        · have hnx2 := hide (show cpS (J.take (k + 1)) a b = S by rw [hnx.out, if_neg (by omega)]; omega)
          go_wp2_with fail
          all_goals
            go_roundg (J.length - (k + 1))
            case measure => omega
            case rel => exact ⟨k + 1, by go_num, by rw [hnx2.out], by omega, hX.out.alloc _⟩
      · have hnx2 := hide (show cpS (J.take (k + 1)) a b = S by rw [hnx.out, if_neg (by omega)]; omega)
        go_wp2_with fail
        all_goals
          go_roundg (J.length - (k + 1))
          case measure => omega
          case rel => exact ⟨k + 1, by go_num, by rw [hnx2.out], by omega, hX.out.alloc _⟩
    · have hkl : k = J.length := by omega
      have hfin : J.take k = J := List.take_of_length_le (by omega)
      rw [hfin]
      go_wp2_with fail
      go_returns
      exact ⟨rfl, hXg.out.trans hX.out⟩
end Go.Proofs.Ytjdbjnpomndfjaa
