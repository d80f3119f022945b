/-
  A helper of ours: no claim of its own. Layer 17 (expr): the check of kinds, by the code.
-/
import Derived.Test.YtopgapbipmblbaaExpG
import Derived.Test.YtopgapbipmblbaaSchD
set_option linter.unusedVariables false
set_option linter.unusedSimpArgs false
namespace Go.Proofs.Ytopgapbipmblbaa
open Go.RowKit
attribute [-go_sem] sliced
attribute [local go_sem] sliced_eq
attribute [local go_sem] GW.cell GW.frozen In.eq_true In.le_true In.ne In.ne' In.ne_add In.ne_add' In.lt_add Upto.le_true Upto.le_add Upto.lt_add
theorem cutA_own {w : World} {B e size n cap : Nat} {A : Option Addr} {xs : List Value} (h : w.ownsRow B e size (.slice A n cap) n xs) : cutA A 0 cap size = A := by
  rcases h.2 with ⟨h', _⟩ | ⟨g, cap', cur, h', _⟩
  · simp only [Value.slice.injEq] at h'
    obtain ⟨rfl, -, -⟩ := h'
    unfold cutA; split <;> rfl
  · simp only [Value.slice.injEq] at h'
    obtain ⟨rfl, -, -⟩ := h'
    unfold cutA; split
    · rfl
    · simp [add_plain]
/-- A slice of one's own, cut short. -/
theorem own_cut {w : World} {B e size n cap : Nat} {A : Option Addr} {xs : List Value} (h : w.ownsRow B e size (.slice A n cap) n xs) (i : Nat) (hi : i ≤ n) : w.ownsRow B e size (.slice (cutA A 0 cap size) i cap) i (xs.take (i * size)) := by
  rw [cutA_own h]
  rcases h.2 with ⟨h', h0⟩ | ⟨g, cap', cur, h', hb, hg, hnc, hcm, hcs, ht⟩
  · simp only [Value.slice.injEq] at h'
    obtain ⟨rfl, -, rfl⟩ := h'
    subst h0
    obtain rfl : i = 0 := by omega
    refine ⟨by simp, .inl ⟨rfl, rfl⟩⟩
  · simp only [Value.slice.injEq, true_and] at h'
    obtain ⟨rfl, rfl⟩ := h'
    have hm : i * size ≤ n * size := Nat.mul_le_mul_right _ hi
    refine ⟨by rw [List.length_take, h.1, Nat.min_eq_left hm], .inr ⟨g, cap, cur, rfl, hb, hg, by omega, hcm, hcs, ?_⟩⟩
    rw [← ht, List.take_take, Nat.min_eq_left hm]
/-- A slice of one's own from place i on. -/
theorem own_from {w : World} {B e size n cap : Nat} {A : Option Addr} {xs : List Value} (h : w.ownsRow B e size (.slice A n cap) n xs) (i : Nat) (hi : i ≤ n) (hcap : n ≤ cap) : Sl w [] size (.slice (cutA A i cap size) (n - i) (cap - i)) (n - i) (xs.drop (i * size)) := by
  have hc := Sl.cut (Sl.own (S := []) h (by simp)) i n cap hi (Nat.le_refl _) hcap (Nat.le_refl _)
  rw [sliced_eq, List.take_of_length_le (by rw [h.1]; exact Nat.le_refl _)] at hc
  exact hc
theorem own_cap {w : World} {B e size n cap : Nat} {A : Option Addr} {xs : List Value} (h : w.ownsRow B e size (.slice A n cap) n xs) : n ≤ cap := by
  rcases h.2 with ⟨h', h0⟩ | ⟨g, cap', cur, h', hb, hg, hnc, hcm, hcs, ht⟩
  · simp only [Value.slice.injEq] at h'; omega
  · simp only [Value.slice.injEq, true_and] at h'
    obtain ⟨-, rfl⟩ := h'
    exact hnc
def ckF (s : List Cl) (l : List Vl) : Except Int Int :=
  if formE l ≠ 0 then .error (formE l)
  else if mayS s = false then .error 17
  else match stR (kdF s) [] l with
    | .error e => .error e
    | .ok st => .ok (st.headD 0)
theorem ckF_tree {s : List Cl} {t : Tr} (g : t.good) (h : t.flat.length ≤ 64) : ckF s t.flat = if mayS s = false then .error 17 else evT (kdF s) t := by
  unfold ckF
  rw [if_neg (by rw [formE_of g h]; simp), stR_all _ t g]
  split
  · rfl
  · cases evT (kdF s) t <;> rfl
theorem ic_take (l : List Int) (n : Nat) : (ic l).take n = ic (l.take n) := by simp [ic, List.map_take]
theorem ic_drop (l : List Int) (n : Nat) : (ic l).drop n = ic (l.drop n) := by simp [ic, List.map_drop]
theorem ic_app (l m : List Int) : ic l ++ ic m = ic (l ++ m) := by simp [ic]
theorem tKnd : ElemT Try.prog 80 38 (.int .i64 0) 1 8 := ElemT.mk' Try.underlying80 (by kernel_rfl) rfl (by omega)
theorem kd_err {s : List Cl} {o : Vl} {ks : List Int} {e : Int} (h : kdF s o ks = .error e) : e ≠ 0 := by
  unfold kdF at h
  split at h
  · split at h
    · cases h
    · injection h with h; omega
  · split at h
    · cases h
    · split at h
      · injection h with h; omega
      · cases h
/-- One word of the stack machine. -/
theorem st_step {α : Type} (f : Vl → List α → Except Int α) {st : List α} {o : Vl} {r : List Vl} (h : fE (st.length : Int) (o :: r) = 0) :
    ∃ (st1 st2 : List α), st = st1 ++ st2 ∧ okW o = true ∧ tkI o.1 = (st2.length : Int) ∧ (∀ v, fE ((st1 ++ [v]).length : Int) r = 0) ∧
      (stR f st (o :: r) = match f o st2 with
        | .error e => .error e
        | .ok v => stR f (st1 ++ [v]) r) := by
  unfold fE at h
  by_cases hc : okW o = true ∧ tkI o.1 ≤ (st.length : Int)
  · rw [if_pos hc] at h
    obtain ⟨ho, ht⟩ := hc
    have h0 : 0 ≤ tkI o.1 := by rcases okW_tk ho with e | e | e <;> omega
    obtain ⟨d, hd⟩ := Int.eq_ofNat_of_zero_le h0
    have hdl : d ≤ st.length := by omega
    refine ⟨st.take (st.length - d), st.drop (st.length - d), (List.take_append_drop _ _).symm, ho, by rw [List.length_drop, hd]; omega, fun v => ?_, ?_⟩
    · rw [List.length_append, List.length_take, List.length_singleton, Nat.min_eq_left (by omega)]
      rw [← h]; congr 1; omega
    · rw [stR, hd, Int.toNat_natCast]
      rfl
  · rw [if_neg hc] at h; omega
set_option maxHeartbeats 8000000 in
set_option maxRecDepth 100000 in
theorem check_c (s : List Cl) (l : List Vl) (v sv : Value) (w : World) (h : Rw w [] v l) (hs : Cw w [] sv s) :
    Calls Try.prog 21 #[v, sv] w fun e w' => e = .returned (.tuple #[.int .i64 (exK (ckF s l)), .int .i64 (exE (ckF s l))]) ∧ Ext w w' := by
  obtain ⟨F, hF⟩ : ∃ F, F = ckF s l := ⟨_, rfl⟩
  rw [← hF]
  have hform := hide (form_c l v w h)
  have hmay := hide (fun w' (hX : Ext w w') => mayS_c s sv w' (Sl.ext hs hX))
  have hkind := hide (fun c n x ks kv w' (hX : Ext w w') (hk : Kw w' [] kv ks) ho hn => kind_c s c n x ks kv sv w' (Sl.ext hs hX) hk ho hn)
  obtain ⟨A, cap, rfl, hl, hm, hat⟩ := rw_form h
  obtain ⟨B, scap, rfl, hsl, hsm, -⟩ := cw_form hs
  clear h hs hm hsm
  unfold ckF at hF
  by_cases hz : formE l = 0
  · rw [if_neg (by rw [hz]; simp)] at hF
    rw [hz] at hform
    obtain ⟨h64, hz2⟩ : l.length ≤ 64 ∧ fE 0 l = 0 := by
      obtain ⟨t, g, e, h64⟩ := formE_tree hz
      exact ⟨h64, by rw [e]; exact fE_of g⟩
    clear hz
    cases hms : mayS s
    · rw [hms, if_pos rfl] at hF
      rw [hms] at hmay
      have hFo : Hid (F = .error 17) := hF
      clear hF hkind hat hms
      go_enter Try.func21, Try.ntmps21
      go_wp2_with (first | (go_at_call 11; (with_reducible refine seq_gw hform.out ?_); intro g) | (go_at_call 41; (with_reducible refine seq_gw' (hmay.out _ g.grown) ?_); intro g2))
      go_returns
      exact ⟨by rw [hFo.out]; rfl, g2.grown⟩
    · rw [hms, if_neg (by simp)] at hF
      rw [hms] at hmay
      have hF' : Hid (F = match stR (kdF s) [] l with
        | .error e => .error e
        | .ok st => .ok (st.headD 0)) := hF
      replace hz2 := hide hz2
      replace hat := hide hat
      clear hF hms
      go_enter Try.func21, Try.ntmps21
      go_wp2_with (first | (go_at_call 11; (with_reducible refine seq_gw hform.out ?_); intro g) | (go_at_call 41; (with_reducible refine seq_gw' (hmay.out _ g.grown) ?_); intro g2))
      clear hform hmay
      go_loopg [7, 23] l.length (fun gh kv i wr => ∃ (k : Nat) (st : List Int), i = .int .i64 k ∧ k + gh = l.length ∧ st.length ≤ k ∧ wr.ownsRow w.heap.size 38 1 kv st.length (ic st) ∧ Hid (fE (st.length : Int) (l.drop k) = 0) ∧ Hid (F = match stR (kdF s) st (l.drop k) with
        | .error e => .error e
        | .ok st => .ok (st.headD 0)) ∧ Ext w wr)
      case atStart => exact ⟨0, [], rfl, by omega, Nat.le_refl _, World.ownsRow_nil _ _ _ _, by simpa using hz2, by simpa using hF', g2.grown⟩
      case round =>
        obtain ⟨k, st, rfl, hk, hst, ho, hfe, hR, hX⟩ := hrel
        clear hz2 hF' g g2
        by_cases hlt : k < l.length
        · obtain ⟨x, hx⟩ : ∃ x, l[k]? = some x := ⟨_, List.getElem?_eq_getElem hlt⟩
          obtain ⟨b, o, rfl, -, hb, c0, c1, c2⟩ := hat.out k x hx
          have k0 := cell_later hX c0
          have k1 := cell_later hX c1
          have k2 := cell_later hX c2
          have hbr : b < wr.heap.size := block_lt_of_cell k0
          have hfe2 := hfe.out
          have hR2 := hR.out
          rw [drop_cons hx] at hfe2 hR2
          obtain ⟨st1, st2, rfl, hok, htk, hnext, hrun⟩ := st_step (kdF s) hfe2
          rw [hrun] at hR2
          replace hR2 := hide hR2
          replace hnext := hide hnext
          clear hrun hfe2 hfe hR
          obtain ⟨xk, xn, xs⟩ := x
          have htc := hide (fun w => takes_c xk w)
          simp only at htk
          rw [htk] at htc
          replace htk := hide htk
          obtain ⟨P, pc, rfl⟩ := own_form ho
          have hcp := own_cap ho
          obtain ⟨a, ha⟩ : ∃ a, a = st1.length := ⟨_, rfl⟩
          obtain ⟨d, hd⟩ : ∃ d, d = st2.length := ⟨_, rfl⟩
          have hlen : (st1 ++ st2).length = a + d := by rw [List.length_append, ha, hd]
          rw [hlen] at ho hcp hst ⊢
          have hcut1 := own_cut ho a (by omega)
          have hcut2 := own_from ho a (by omega) hcp
          rw [Nat.mul_one, ic_take, ha, List.take_left] at hcut1
          rw [Nat.mul_one, ic_drop, Nat.add_sub_cancel_left, ha, List.drop_left] at hcut2
          rw [← ha] at hcut1 hcut2
          have hkc := hide (fun w' (hX' : Ext wr w') => hkind.out xk xn xs st2 (.slice (cutA P a pc 1) d (pc - a)) w' (hX.trans hX') (by show Sl _ _ _ _ st2.length _; rw [← hd]; exact Sl.ext hcut2 hX') hok htk.out)
          rw [← hd] at htc
          replace hcut1 := hide hcut1
          have ha64 : a ≤ 64 := by omega
          have hapc : (a : Int) ≤ (a : Int) + d := by omega
          have hapc2 : (a : Int) ≤ pc := by omega
          have hkd := @kd_err s (xk, xn, xs) st2
          replace ha := hide ha
          replace hR2 := hR2.out
          clear hx hat c0 c1 c2 hlen htk hok hkind ho hcut2 hd
          generalize kdF s (xk, xn, xs) st2 = K at *
          cases K with
          | error e =>
            have hFo : Hid (F = .error e) := hR2
            have hez : (e != 0) = true := by rw [bne_iff_ne]; exact hkd rfl
            clear hR2 hkd
            replace hkc := hide (show ∀ w', Ext wr w' → Calls Try.prog 42 _ w' fun ee w'' => ee = .returned (.tuple #[.int .i64 0, .int .i64 e]) ∧ Ext w' w'' from hkc.out)
            go_wp2_with (first | (go_at_call 31; (with_reducible refine seq_gw (htc.out _) ?_); intro g))
            refine wp_region_gw (by kernel_rfl) (by kernel_rfl) ?_
            repeat (go_big_quiet_step ((go_at_call 42; with_reducible exact quiet_gw (hkc.out _ (((Ext.refl wr).alloc _).trans (g.grown.trans (GW.grown _)))))))
            refine wpQuiet_nil ?_
            intro g7
            go_wp2_with fail
            go_returns
            exact ⟨by rw [hFo.out]; rfl, ((hX.alloc _).trans g.grown).trans g7.grown⟩
          | ok kd =>
            replace hR2 := hide hR2
            clear hkd
            replace hkc := hide (show ∀ w', Ext wr w' → Calls Try.prog 42 _ w' fun ee w'' => ee = .returned (.tuple #[.int .i64 kd, .int .i64 0]) ∧ Ext w' w'' from hkc.out)
            go_wp2_with (first | (go_at_call 31; (with_reducible refine seq_gw (htc.out _) ?_); intro g))
            refine wp_region_gw (by kernel_rfl) (by kernel_rfl) ?_
            repeat (go_big_quiet_step ((go_at_call 42; with_reducible exact quiet_gw (hkc.out _ (((Ext.refl wr).alloc _).trans (g.grown.trans (GW.grown _)))))))
            refine wpQuiet_nil ?_
            intro g7
            have hX7 := hide (((Ext.refl wr).alloc (.cells #[.int .i64 xk, .int .i64 xn, .string xs] 57)).trans (g.grown.trans g7.grown))
            have hz7 := hX7.out.size
            have hzX := hX.size
            go_wp2_with (at_builtin; (refine wpl_app tKnd rfl (.tmp 47) (.tmp 49) rfl rfl (own_ext hcut1.out (hX7.out.alloc _)) rfl (src_cell1 Try.underlying80 g7.val _ rfl _) (by unfold maxLen; omega) (by omega) (by simp only [World.size_alloc]; omega) ?_; intro v2 w2 ho2 hg2 _))
            go_roundg (l.length - (k + 1))
            case measure => omega
            case rel =>
              have ho3 : w2.ownsRow w.heap.size 38 1 v2 (st1 ++ [kd]).length (ic (st1 ++ [kd])) := by
                rw [List.length_append, List.length_singleton, ← ic_app, ← ha.out]; exact ho2
              exact ⟨k + 1, st1 ++ [kd], by go_num, by omega, by rw [List.length_append, List.length_singleton, ← ha.out]; omega, ho3, hnext.out kd, hR2, ext_grown ((hX.trans hX7.out).alloc _) hg2 (fun k hk => (hcut1.out.lt k hk).1)⟩
        · have hk' : k = l.length := by omega
          have hge : (l.length : Int) ≤ k := by omega
          have hfe2 := hfe.out
          have hR2 := hR.out
          rw [hk', List.drop_length] at hfe2 hR2
          have h1 : st.length = 1 := by
            unfold fE at hfe2
            by_cases h1 : (st.length : Int) = 1
            · omega
            · rw [if_neg h1] at hfe2; omega
          obtain ⟨k1, rfl⟩ := List.length_eq_one_iff.1 h1
          have hFo : Hid (F = .ok k1) := hR2
          obtain ⟨P, pc, rfl⟩ := own_form ho
          obtain ⟨b, o, hAd, -, hb, c0⟩ : ∃ b o, P = some ⟨b, o, none⟩ ∧ True ∧ b < wr.heap.size ∧ wr.cell? ⟨b, o, none⟩ = some (.int .i64 k1) := by
            have hkw : Kw wr [] (.slice P 1 pc) [k1] := Sl.own (S := []) ho (by simp)
            obtain ⟨A', c', e, -, -, hh⟩ := kw_form hkw
            obtain ⟨b, o, e2, -, h3, h4⟩ := hh 0 k1 rfl
            have e3 : P = A' := (Value.slice.inj e).1
            exact ⟨b, o, e3.trans e2, trivial, h3, h4⟩
          subst hAd
          replace hk' := hide hk'
          clear hfe hR hfe2 hR2 h1 ho
          go_wp2_with fail
          go_returns
          exact ⟨by rw [hFo.out]; rfl, hX⟩
  · rw [if_pos hz] at hF
    have hFo : Hid (F = .error (formE l)) := hF
    have hzI : (formE l != 0) = true := by simpa using hz
    generalize formE l = E at *
    clear hF hz hmay hkind hat
    go_enter Try.func21, Try.ntmps21
    go_wp2_with (first | (go_at_call 11; (with_reducible refine seq_gw hform.out ?_); intro g))
    go_returns
    exact ⟨by rw [hFo.out]; rfl, g.grown⟩
end Go.Proofs.Ytopgapbipmblbaa
