/-
  A helper of ours: no claim of its own. Layer 7 (schema): columns picked out of schemas, on both sides.
-/
import Derived.Test.YtbapkkijfmdcoaaSchG
import Derived.Test.YtbapkkijfmdcoaaRowP
set_option linter.unusedVariables false
set_option linter.unusedSimpArgs false
namespace Go.Proofs.Ytbapkkijfmdcoaa
open Go.RowKit
attribute [local go_sem] GW.cell GW.frozen In.eq_true In.le_true In.ne In.ne' In.ne_add In.ne_add' In.lt_add Upto.le_true Upto.le_add Upto.lt_add
theorem src_col {P : Program} {tx e' : TypeId} (hk : P.underlying tx = some (.slice e')) (w : World) (x : Cl) (E : TypeId) : Src P 2 tx (.slice (some ⟨w.heap.size, 0, none⟩) 1 1) 1 (cc x) (w.alloc (.cells #[.string x.1, .int .i64 x.2] E)) :=
  Src.ofSlice _ hk _ 1 1 (cc x) (by simp [cc]) (fun j u hj => by
    have hh := (Ob.new w E [.string x.1, .int .i64 x.2]).cell j hj
    rw [show (⟨w.heap.size, 0, none⟩ : Addr).add j = ⟨w.heap.size, j, none⟩ by rw [add_plain]; simp]
    exact hh) (by
    intro u hu
    exact cl_one [x] u (by simpa [cl] using hu))
/-- Columns at places: what is wrong with the places, and the columns. -/
def pkSE (l : List Cl) : List Int → Int
  | [] => 0
  | c :: r => if c < 0 ∨ (l.length : Int) ≤ c then 3 else pkSE l r
def pkSV (l : List Cl) (cs : List Int) : List Cl := cs.flatMap fun c => (l[c.toNat]?).toList
def pickSE (l : List Cl) (cs : List Int) : Int := if mayS l then (if 8 < cs.length then 6 else if pkSE l cs = 0 then (if apartB (pkSV l cs) then 0 else 9) else 3) else 17
def pickSV (l : List Cl) (cs : List Int) : List Cl := if pickSE l cs = 0 then pkSV l cs else []
theorem pkSV_snoc (l : List Cl) (cs : List Int) (c : Int) {x : Cl} (h : l[c.toNat]? = some x) : pkSV l (cs ++ [c]) = pkSV l cs ++ [x] := by
  simp [pkSV, h]
theorem pkSV_mem (l : List Cl) (cs : List Int) (x : Cl) (h : x ∈ pkSV l cs) : x ∈ l := by
  simp only [pkSV, List.mem_flatMap] at h
  obtain ⟨c, -, hc⟩ := h
  cases h : l[c.toNat]? with
  | none => rw [h] at hc; simp at hc
  | some y =>
    rw [h] at hc
    obtain rfl : x = y := by simpa using hc
    exact List.mem_of_getElem? h
theorem pkSV_len (l : List Cl) (cs : List Int) : (pkSV l cs).length ≤ cs.length := by
  induction cs with
  | nil => simp [pkSV]
  | cons c r ih =>
    have e : pkSV l (c :: r) = (l[c.toNat]?).toList ++ pkSV l r := by simp [pkSV]
    rw [e, List.length_append, List.length_cons]
    have : (l[c.toNat]?).toList.length ≤ 1 := by cases l[c.toNat]? <;> simp
    omega
theorem pkSE_bad (l : List Cl) (c : Int) (r : List Int) (h : c < 0 ∨ (l.length : Int) ≤ c) : pkSE l (c :: r) = 3 := if_pos h
theorem pkSE_ok (l : List Cl) (c : Int) (r : List Int) (h : ¬ (c < 0 ∨ (l.length : Int) ≤ c)) : pkSE l (c :: r) = pkSE l r := if_neg h
theorem pkS_may {l : List Cl} (h : mayS l = true) {V : List Cl} {cs : List Int} (hV : V = pkSV l cs) (h8 : cs.length ≤ 8) (h0 : 0 < V.length) : mayS V = apartB V := by
  obtain ⟨_, h2, _⟩ := mayS_iff.1 h
  have hl := pkSV_len l cs
  have ha : V.all okC = true := by
    rw [List.all_eq_true, hV]
    exact fun c hc => h2 c (pkSV_mem l cs c hc)
  unfold mayS
  rw [ha, decide_eq_true (by rw [hV] at h0 ⊢; omega), Bool.true_and, Bool.true_and]
set_option maxHeartbeats 8000000 in
set_option maxRecDepth 100000 in
theorem pickS_c (l : List Cl) (cs : List Int) (v u : Value) (w : World) (hl : Cw w [] v l) (hm : Sl w [] 1 u cs.length (ic cs)) : Calls Try.prog 24 #[v, u] w fun e w' => ∃ v', e = .returned (.tuple #[v', .int .i64 (pickSE l cs)]) ∧ OwnC w' w.heap.size v' (pickSV l cs) ∧ Ext w w' := by
  have h1 := hide (fun w' (hX : Ext w w') => mayS_c l v w' (Sl.ext hl hX))
  have hX0 := hide (Ext.refl w)
  obtain ⟨A, cap, rfl, hlc, hlm, hat⟩ := cw_form hl
  obtain ⟨B, cap2, rfl, hmc, hmm, hbt⟩ := ic_form hm
  unfold maxLen at hlm hmm
  replace hat := hide hat
  replace hbt := hide hbt
  clear hl hm
  cases ha : mayS l
  · have e1 : pickSE l cs = 17 := by unfold pickSE; rw [ha]; rfl
    have e2 : pickSV l cs = [] := by unfold pickSV; rw [e1, if_neg (by decide)]
    rw [e1, e2]
    rw [ha] at h1
    clear ha e1 e2
    go_enter Try.func24, Try.ntmps24
    go_wp2_with (go_at_call 12; (with_reducible refine seq_gw (h1.out _ hX0.out) ?_); intro g)
    go_returns
    exact ⟨_, rfl, World.ownsRow_nil _ _ _ _, g.grown⟩
  rw [ha] at h1
  have l8 := (mayS_iff.1 ha).1
  by_cases h8 : 8 < cs.length
  · have e1 : pickSE l cs = 6 := by unfold pickSE; rw [if_pos ha, if_pos h8]
    have e2 : pickSV l cs = [] := by unfold pickSV; rw [e1, if_neg (by decide)]
    rw [e1, e2]
    have h8I : (8 : Int) < cs.length := by omega
    clear ha e1 e2
    go_enter Try.func24, Try.ntmps24
    go_wp2_with (go_at_call 12; (with_reducible refine seq_gw (h1.out _ hX0.out) ?_); intro g)
    go_returns
    exact ⟨_, rfl, World.ownsRow_nil _ _ _ _, g.grown⟩
  have h8I : (cs.length : Int) ≤ 8 := by omega
  obtain ⟨R, hR⟩ : ∃ R, R = pickSE l cs := ⟨_, rfl⟩
  obtain ⟨V, hV⟩ : ∃ V, V = pickSV l cs := ⟨_, rfl⟩
  rw [← hR, ← hV]
  have eR : pickSE l cs = if pkSE l cs = 0 then (if apartB (pkSV l cs) then 0 else 9) else 3 := by unfold pickSE; rw [if_pos ha, if_neg h8]
  have hbad : Hid (pkSE l cs = 3 → R = 3 ∧ V = []) := fun h => by
    have e : R = 3 := by rw [hR, eR, h]; rfl
    exact ⟨e, by rw [hV]; unfold pickSV; rw [← hR, e]; rfl⟩
  have htw : Hid (∀ acc, acc = pkSV l cs → pkSE l cs = 0 → apartB acc = false → R = 9 ∧ V = []) := fun acc hac h hp => by
    rw [hac] at hp
    have e : R = 9 := by rw [hR, eR, h, if_pos rfl, hp]; rfl
    exact ⟨e, by rw [hV]; unfold pickSV; rw [← hR, e]; rfl⟩
  have hok : Hid (∀ acc, acc = pkSV l cs → pkSE l cs = 0 → apartB acc = true → R = 0 ∧ V = acc) := fun acc hac h hp => by
    have hp' := hp
    rw [hac] at hp'
    have e : R = 0 := by rw [hR, eR, h, if_pos rfl, hp']; rfl
    exact ⟨e, by rw [hV]; unfold pickSV; rw [← hR, e, if_pos rfl, hac]⟩
  have hmy : Hid (∀ acc, acc = pkSV l cs → 0 < acc.length → mayS acc = apartB acc) := fun acc hac h0 => pkS_may ha hac (by omega) h0
  clear hR hV eR ha
  go_enter Try.func24, Try.ntmps24
  go_wp2_with (go_at_call 12; (with_reducible refine seq_gw (h1.out _ hX0.out) ?_); intro g)
  clear h1 hX0
  go_loopg [6, 17] cs.length (fun gh vv i wr => ∃ (k : Nat) (acc : List Cl), i = .int .i64 k ∧ k + gh = cs.length ∧ OwnC wr w.heap.size vv acc ∧ acc.length ≤ k ∧ Hid (acc = pkSV l (cs.take k)) ∧ Hid (pkSE l cs = pkSE l (cs.drop k)) ∧ Ext w wr)
  case atStart => exact ⟨0, [], rfl, by omega, World.ownsRow_nil _ _ _ _, Nat.le_refl _, (by show [] = pkSV l (cs.take 0); simp [pkSV]), (by show pkSE l cs = pkSE l (cs.drop 0); simp), g.grown⟩
  case round =>
    obtain ⟨k, acc, rfl, hk, ho, hak, hacc, hRk, hX⟩ := hrel
    have hzX := hX.size
    by_cases hlt : k < cs.length
    · obtain ⟨c, hc⟩ : ∃ c, cs[k]? = some c := ⟨_, List.getElem?_eq_getElem hlt⟩
      obtain ⟨b', o', rfl, -, hb', d0⟩ := hbt.out k c hc
      have j0 := cell_later hX d0
      have hbr' : b' < wr.heap.size := block_lt_of_cell j0
      have hR2 := hRk.out
      rw [drop_cons hc] at hR2
      by_cases hbd : c < 0 ∨ (l.length : Int) ≤ c
      · rw [pkSE_bad l c _ hbd] at hR2
        have hR3 := hide (hbad.out hR2)
        replace hR2 := hide hR2
        clear hc d0 hRk
        by_cases hneg : c < 0
        · clear hbd
          go_wp2_with fail
          go_returns
          rw [hR3.out.1, hR3.out.2]
          exact ⟨_, rfl, World.ownsRow_nil _ _ _ _, hX⟩
        · have hge := hbd.resolve_left hneg
          clear hbd
          go_wp2_with fail
          go_returns
          rw [hR3.out.1, hR3.out.2]
          exact ⟨_, rfl, World.ownsRow_nil _ _ _ _, hX⟩
      · rw [pkSE_ok l c _ hbd] at hR2
        replace hR2 := hide hR2
        have hc0 : 0 ≤ c := by omega
        obtain ⟨q, rfl⟩ := Int.eq_ofNat_of_zero_le hc0
        have hq : q < l.length := by omega
        have hqI : (q : Int) < l.length := by omega
        obtain ⟨x, hx⟩ : ∃ x, l[q]? = some x := ⟨_, List.getElem?_eq_getElem hq⟩
        obtain ⟨b, o, rfl, -, hb, c0, c1⟩ := hat.out q x hx
        have k0 := cell_later hX c0
        have k1 := cell_later hX c1
        have hbr : b < wr.heap.size := block_lt_of_cell k0
        have hacc' : Hid (acc ++ [x] = pkSV l (cs.take (k + 1))) := by
          show _ = _
          rw [List.take_add_one, hc, Option.toList_some, pkSV_snoc l _ (q : Int) (x := x) (by simpa using hx), hacc.out]
        obtain ⟨xn, xk⟩ := x
        clear hc d0 hRk hbd c0 c1 hx hacc hc0
        go_wp2_with (at_builtin; (refine wpl_app tCol rfl (.tmp 29) (.tmp 34) rfl rfl (own_ext ho ((Ext.refl wr).alloc _)) rfl (src_col Try.underlying25 wr (xn, xk) _) (by unfold maxLen; omega) (by omega) (by simp only [World.size_alloc]; omega) ?_; intro v2 w2 ho2 hg2 _))
        go_roundg (cs.length - (k + 1))
        case measure => omega
        case rel =>
          have ho3 : OwnC w2 w.heap.size v2 (acc ++ [(xn, xk)]) := own_appC (m := [(xn, xk)]) (by simpa [cl] using ho2)
          exact ⟨k + 1, acc ++ [(xn, xk)], by go_num, by omega, ho3, by rw [List.length_append, List.length_singleton]; omega, hacc', hR2, ext_grown (hX.alloc _) hg2 (fun k hk => (ho.lt k hk).1)⟩
    · have hk' : k = cs.length := by omega
      have hge : (cs.length : Int) ≤ k := by omega
      have hR2 := hRk.out
      rw [List.drop_eq_nil_of_le (by omega)] at hR2
      replace hR2 : pkSE l cs = 0 := hR2
      have hac := hacc.out
      rw [List.take_of_length_le (by omega)] at hac
      have hf9 := hide (htw.out acc hac hR2)
      have hf0 := hide (hok.out acc hac hR2)
      have hfm := hide (hmy.out acc hac)
      replace hR2 := hide hR2
      replace hk' := hide hk'
      replace hac := hide hac
      obtain ⟨C, c3, rfl⟩ := own_form ho
      have hcw := hide (own_cw (S := []) ho (by simp))
      have ht := hide (hasTwice_c acc _ wr hcw.out)
      cases hap : apartB acc
      · rw [hap] at ht
        replace hf9 := hide (hf9.out hap)
        clear hap hf0
        go_wp2_with (go_at_call 41; (with_reducible refine seq_gw ht.out ?_); intro g4)
        go_returns
        rw [hf9.out.1, hf9.out.2]
        exact ⟨_, rfl, World.ownsRow_nil _ _ _ _, hX.trans g4.grown⟩
      · rw [hap] at ht
        replace hf0 := hide (hf0.out hap)
        clear hap hf9
        go_wp2_with (go_at_call 41; (with_reducible refine seq_gw ht.out ?_); intro g4)
        go_returns
        rw [hf0.out.1, hf0.out.2]
        exact ⟨_, rfl, own_ext ho g4.grown, hX.trans g4.grown⟩
set_option maxHeartbeats 8000000 in
set_option maxRecDepth 100000 in
theorem refPickS_c (l : List Cl) (cs : List Int) (v u : Value) (w : World) (hl : Cw w [] v l) (hm : Sl w [] 1 u cs.length (ic cs)) : Calls Try.prog 25 #[v, u] w fun e w' => ∃ v', e = .returned (.tuple #[v', .int .i64 (pickSE l cs)]) ∧ OwnC w' w.heap.size v' (pickSV l cs) ∧ Ext w w' := by
  have h1 := hide (fun w' (hX : Ext w w') => refMayS_c l v w' (Sl.ext hl hX))
  have hX0 := hide (Ext.refl w)
  obtain ⟨A, cap, rfl, hlc, hlm, hat⟩ := cw_form hl
  obtain ⟨B, cap2, rfl, hmc, hmm, hbt⟩ := ic_form hm
  unfold maxLen at hlm hmm
  replace hat := hide hat
  replace hbt := hide hbt
  clear hl hm
  cases ha : mayS l
  · have e1 : pickSE l cs = 17 := by unfold pickSE; rw [ha]; rfl
    have e2 : pickSV l cs = [] := by unfold pickSV; rw [e1, if_neg (by decide)]
    rw [e1, e2]
    rw [ha] at h1
    clear ha e1 e2
    go_enter Try.func25, Try.ntmps25
    go_wp2_with (go_at_call 13; (with_reducible refine seq_gw (h1.out _ hX0.out) ?_); intro g)
    go_returns
    exact ⟨_, rfl, World.ownsRow_nil _ _ _ _, g.grown⟩
  rw [ha] at h1
  have l8 := (mayS_iff.1 ha).1
  by_cases h8 : 8 < cs.length
  · have e1 : pickSE l cs = 6 := by unfold pickSE; rw [if_pos ha, if_pos h8]
    have e2 : pickSV l cs = [] := by unfold pickSV; rw [e1, if_neg (by decide)]
    rw [e1, e2]
    have h8I : (8 : Int) < cs.length := by omega
    clear ha e1 e2
    go_enter Try.func25, Try.ntmps25
    go_wp2_with (go_at_call 13; (with_reducible refine seq_gw (h1.out _ hX0.out) ?_); intro g)
    go_returns
    exact ⟨_, rfl, World.ownsRow_nil _ _ _ _, g.grown⟩
  have h8I : (cs.length : Int) ≤ 8 := by omega
  obtain ⟨R, hR⟩ : ∃ R, R = pickSE l cs := ⟨_, rfl⟩
  obtain ⟨V, hV⟩ : ∃ V, V = pickSV l cs := ⟨_, rfl⟩
  rw [← hR, ← hV]
  have eR : pickSE l cs = if pkSE l cs = 0 then (if apartB (pkSV l cs) then 0 else 9) else 3 := by unfold pickSE; rw [if_pos ha, if_neg h8]
  have hbad : Hid (pkSE l cs = 3 → R = 3 ∧ V = []) := fun h => by
    have e : R = 3 := by rw [hR, eR, h]; rfl
    exact ⟨e, by rw [hV]; unfold pickSV; rw [← hR, e]; rfl⟩
  have htw : Hid (∀ acc, acc = pkSV l cs → pkSE l cs = 0 → apartB acc = false → R = 9 ∧ V = []) := fun acc hac h hp => by
    rw [hac] at hp
    have e : R = 9 := by rw [hR, eR, h, if_pos rfl, hp]; rfl
    exact ⟨e, by rw [hV]; unfold pickSV; rw [← hR, e]; rfl⟩
  have hok : Hid (∀ acc, acc = pkSV l cs → pkSE l cs = 0 → apartB acc = true → R = 0 ∧ V = acc) := fun acc hac h hp => by
    have hp' := hp
    rw [hac] at hp'
    have e : R = 0 := by rw [hR, eR, h, if_pos rfl, hp']; rfl
    exact ⟨e, by rw [hV]; unfold pickSV; rw [← hR, e, if_pos rfl, hac]⟩
  have hmy : Hid (∀ acc, acc = pkSV l cs → 0 < acc.length → mayS acc = apartB acc) := fun acc hac h0 => pkS_may ha hac (by omega) h0
  clear hR hV eR ha
  go_enter Try.func25, Try.ntmps25
  go_wp2_with (go_at_call 13; (with_reducible refine seq_gw (h1.out _ hX0.out) ?_); intro g; have hlit := hide (World.ownsRow_lit (base := w.heap.size) (e := 34) (size := 2) g.val #[] 0 (GW.size g) (by decide) rfl))
  clear h1 hX0
  go_loopg [6, 7] cs.length (fun gh vv i wr => ∃ (k : Nat) (acc : List Cl), i = .int .i64 k ∧ k + gh = cs.length ∧ OwnC wr w.heap.size vv acc ∧ acc.length ≤ k ∧ Hid (acc = pkSV l (cs.take k)) ∧ Hid (pkSE l cs = pkSE l (cs.drop k)) ∧ Ext w wr)
  case atStart => exact ⟨0, [], rfl, by omega, hlit.out, Nat.le_refl _, (by show [] = pkSV l (cs.take 0); simp [pkSV]), (by show pkSE l cs = pkSE l (cs.drop 0); simp), g.grown.alloc _⟩
  case round =>
    obtain ⟨k, acc, rfl, hk, ho, hak, hacc, hRk, hX⟩ := hrel
    have hzX := hX.size
    by_cases hlt : k < cs.length
    · obtain ⟨c, hc⟩ : ∃ c, cs[k]? = some c := ⟨_, List.getElem?_eq_getElem hlt⟩
      obtain ⟨b', o', rfl, -, hb', d0⟩ := hbt.out k c hc
      have j0 := cell_later hX d0
      have hbr' : b' < wr.heap.size := block_lt_of_cell j0
      have hR2 := hRk.out
      rw [drop_cons hc] at hR2
      by_cases hbd : c < 0 ∨ (l.length : Int) ≤ c
      · rw [pkSE_bad l c _ hbd] at hR2
        have hR3 := hide (hbad.out hR2)
        replace hR2 := hide hR2
        clear hc d0 hRk
        by_cases hneg : c < 0
        · clear hbd
          go_wp2_with fail
          go_returns
          rw [hR3.out.1, hR3.out.2]
          exact ⟨_, rfl, World.ownsRow_nil _ _ _ _, hX⟩
        · have hge := hbd.resolve_left hneg
          clear hbd
          go_wp2_with fail
          go_returns
          rw [hR3.out.1, hR3.out.2]
          exact ⟨_, rfl, World.ownsRow_nil _ _ _ _, hX⟩
      · rw [pkSE_ok l c _ hbd] at hR2
        replace hR2 := hide hR2
        have hc0 : 0 ≤ c := by omega
        obtain ⟨q, rfl⟩ := Int.eq_ofNat_of_zero_le hc0
        have hq : q < l.length := by omega
        have hqI : (q : Int) < l.length := by omega
        obtain ⟨x, hx⟩ : ∃ x, l[q]? = some x := ⟨_, List.getElem?_eq_getElem hq⟩
        obtain ⟨b, o, rfl, -, hb, c0, c1⟩ := hat.out q x hx
        have k0 := cell_later hX c0
        have k1 := cell_later hX c1
        have hbr : b < wr.heap.size := block_lt_of_cell k0
        have hacc' : Hid (acc ++ [x] = pkSV l (cs.take (k + 1))) := by
          show _ = _
          rw [List.take_add_one, hc, Option.toList_some, pkSV_snoc l _ (q : Int) (x := x) (by simpa using hx), hacc.out]
        obtain ⟨xn, xk⟩ := x
        clear hc d0 hRk hbd c0 c1 hx hacc hc0
        go_wp2_with (at_builtin; (refine wpl_app tCol rfl (.tmp 35) (.tmp 43) rfl rfl (own_ext ho ((Ext.refl wr).alloc _)) rfl (src_col Try.underlying25 wr (xn, xk) _) (by unfold maxLen; omega) (by omega) (by simp only [World.size_alloc]; omega) ?_; intro v2 w2 ho2 hg2 _))
        go_roundg (cs.length - (k + 1))
        case measure => omega
        case rel =>
          have ho3 : OwnC w2 w.heap.size v2 (acc ++ [(xn, xk)]) := own_appC (m := [(xn, xk)]) (by simpa [cl] using ho2)
          exact ⟨k + 1, acc ++ [(xn, xk)], by go_num, by omega, ho3, by rw [List.length_append, List.length_singleton]; omega, hacc', hR2, ext_grown (hX.alloc _) hg2 (fun k hk => (ho.lt k hk).1)⟩
    · have hk' : k = cs.length := by omega
      have hge : (cs.length : Int) ≤ k := by omega
      have hR2 := hRk.out
      rw [List.drop_eq_nil_of_le (by omega)] at hR2
      replace hR2 : pkSE l cs = 0 := hR2
      have hac := hacc.out
      rw [List.take_of_length_le (by omega)] at hac
      have hf9 := hide (htw.out acc hac hR2)
      have hf0 := hide (hok.out acc hac hR2)
      have hfm := hide (hmy.out acc hac)
      replace hR2 := hide hR2
      replace hk' := hide hk'
      replace hac := hide hac
      obtain ⟨C, c3, rfl⟩ := own_form ho
      have hcw := hide (own_cw (S := []) ho (by simp))
      by_cases hz : acc.length = 0
      · have hap : apartB acc = true := by rw [List.eq_nil_of_length_eq_zero hz]; rfl
        have hz0 : ¬ (0 : Int) < acc.length := by omega
        replace hf0 := hide (hf0.out hap)
        replace hz := hide hz
        clear hap hf9
        go_wp2_with fail
        go_returns
        rw [hf0.out.1, hf0.out.2]
        exact ⟨_, rfl, ho, hX⟩
      have hz0 : (0 : Int) < acc.length := by omega
      have ht := refMayS_c acc _ wr hcw.out
      rw [hfm.out (by omega)] at ht
      replace ht := hide ht
      clear hz
      cases hap : apartB acc
      · rw [hap] at ht
        replace hf9 := hide (hf9.out hap)
        clear hap hf0
        go_wp2_with (go_at_call 13; (with_reducible refine seq_gw ht.out ?_); intro g4)
        go_returns
        rw [hf9.out.1, hf9.out.2]
        exact ⟨_, rfl, World.ownsRow_nil _ _ _ _, hX.trans g4.grown⟩
      · rw [hap] at ht
        replace hf0 := hide (hf0.out hap)
        clear hap hf9
        go_wp2_with (go_at_call 13; (with_reducible refine seq_gw ht.out ?_); intro g4)
        go_returns
        rw [hf0.out.1, hf0.out.2]
        exact ⟨_, rfl, own_ext ho g4.grown, hX.trans g4.grown⟩
end Go.Proofs.Ytbapkkijfmdcoaa
