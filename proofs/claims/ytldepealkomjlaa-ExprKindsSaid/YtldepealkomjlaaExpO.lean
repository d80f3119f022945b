/-
  A helper of ours: no claim of its own. Layer 17 (expr): the check of kinds, by the document.
-/
import Derived.Test.YtldepealkomjlaaExpN
import Derived.Test.YtldepealkomjlaaExpH
import Derived.Test.YtldepealkomjlaaSchF
set_option linter.unusedVariables false
set_option linter.unusedSimpArgs false
namespace Go.Proofs.Ytldepealkomjlaa
open Go.RowKit
attribute [local go_sem] GW.cell GW.frozen In.eq_true In.le_true In.ne In.ne' In.ne_add In.ne_add' In.lt_add Upto.le_true Upto.le_add Upto.lt_add
/-- The answers of parts, the first one first. -/
def evL {α : Type} (f : Vl → List α → Except Int α) : List Tr → Except Int (List α)
  | [] => .ok []
  | t :: r => match evT f t with
    | .error e => .error e
    | .ok x => match evL f r with
      | .error e => .error e
      | .ok xs => .ok (x :: xs)
theorem evT_kids {α : Type} (f : Vl → List α → Except Int α) (t : Tr) : evT f t = match evL f t.kids with
    | .error e => .error e
    | .ok xs => f t.top xs := by
  cases t with
  | leaf o => rfl
  | one o a =>
    simp only [Tr.kids, Tr.top, evT, evL]
    cases evT f a <;> rfl
  | two o a b =>
    simp only [Tr.kids, Tr.top, evT, evL]
    cases evT f a with
    | error e => rfl
    | ok x => cases evT f b <;> rfl
theorem evL_snoc {α : Type} (f : Vl → List α → Except Int α) : ∀ (K : List Tr) (t : Tr) (xs : List α), evL f K = .ok xs → evL f (K ++ [t]) = match evT f t with
    | .error e => .error e
    | .ok x => .ok (xs ++ [x])
  | [], t, xs, h => by
    simp only [evL] at h
    injection h with h
    subst h
    simp only [List.nil_append, evL]
    try (cases evT f t <;> rfl)
  | k :: K, t, xs, h => by
    simp only [evL] at h
    cases hk : evT f k with
    | error e => rw [hk] at h; cases h
    | ok x =>
      rw [hk] at h
      simp only at h
      cases hK : evL f K with
      | error e => rw [hK] at h; cases h
      | ok ys =>
        rw [hK] at h
        injection h with h
        subst h
        simp only [List.cons_append, evL, hk, evL_snoc f K t ys hK]
        cases evT f t <;> rfl
theorem evL_err {α : Type} (f : Vl → List α → Except Int α) : ∀ (K : List Tr) (i : Nat) (t : Tr) (xs : List α) (e : Int), K[i]? = some t → evL f (K.take i) = .ok xs → evT f t = .error e → evL f K = .error e
  | [], i, t, xs, e, h, _, _ => by simp at h
  | k :: K, 0, t, xs, e, h, _, he => by
    obtain rfl : k = t := by simpa using h
    simp only [evL, he]
  | k :: K, i + 1, t, xs, e, h, hx, he => by
    simp only [List.take_succ_cons, evL] at hx
    cases hk : evT f k with
    | error e => rw [hk] at hx; cases hx
    | ok x =>
      rw [hk] at hx
      simp only at hx
      cases hK : evL f (K.take i) with
      | error e => rw [hK] at hx; cases hx
      | ok ys => simp only [evL, hk, evL_err f K i t ys e (by simpa using h) hK he]
theorem evT_err {s : List Cl} : ∀ (t : Tr) (e : Int), evT (kdF s) t = .error e → e ≠ 0
  | .leaf o, e, h => kd_err h
  | .one o a, e, h => by
    simp only [evT] at h
    cases ha : evT (kdF s) a with
    | error z => rw [ha] at h; injection h with h; subst h; exact evT_err a _ ha
    | ok x => rw [ha] at h; exact kd_err h
  | .two o a b, e, h => by
    simp only [evT] at h
    cases ha : evT (kdF s) a with
    | error z => rw [ha] at h; injection h with h; subst h; exact evT_err a _ ha
    | ok x =>
      rw [ha] at h
      simp only at h
      cases hb : evT (kdF s) b with
      | error z => rw [hb] at h; injection h with h; subst h; exact evT_err b _ hb
      | ok y => rw [hb] at h; exact kd_err h
theorem evL_len {α : Type} (f : Vl → List α → Except Int α) : ∀ (K : List Tr) (xs : List α), evL f K = .ok xs → xs.length = K.length
  | [], xs, h => by simp only [evL] at h; injection h with h; subst h; rfl
  | k :: K, xs, h => by
    simp only [evL] at h
    cases hk : evT f k with
    | error e => rw [hk] at h; cases h
    | ok x =>
      rw [hk] at h
      simp only at h
      cases hK : evL f K with
      | error e => rw [hK] at h; cases h
      | ok ys => rw [hK] at h; injection h with h; subst h; simp [evL_len f K ys hK]
theorem parts_at {w : World} {base : Nat} {v : Value} {L : List (List Vl)} (h : PartsIn w base v L) (i : Nat) (l : List Vl) (hl : L[i]? = some l) : ∃ (g cap : Nat) (A : Option Addr) (c : Nat), v = .slice (some ⟨g, 0, none⟩) L.length cap ∧ g < w.heap.size ∧ w.cell? ⟨g, i, none⟩ = some (.slice A l.length c) ∧ Rw w [] (.slice A l.length c) l := by
  obtain ⟨us, ho, hr⟩ := h
  obtain ⟨u, hu, hw⟩ := hr i l hl
  obtain ⟨A, c, rfl, -⟩ := rw_form hw
  have hi := (List.getElem?_eq_some_iff.1 hl).1
  rcases ho.2 with ⟨_, h0⟩ | ⟨g, cap, cur, rfl, _⟩
  · omega
  · have c1 := ho.cells (g := g) rfl i _ hu
    rw [add_plain, Nat.zero_add] at c1
    exact ⟨g, cap, A, c, rfl, block_lt_of_cell c1, c1, hw⟩
theorem flats_take (K : List Tr) (i : Nat) (t : Tr) (h : K[i]? = some t) : flats (K.take (i + 1)) = flats (K.take i) ++ t.flat := by
  rw [List.take_add_one, h, Option.toList_some, flats_app]; simp [flats]
theorem flats_le (K : List Tr) (i : Nat) : (flats (K.take i)).length ≤ (flats K).length := by
  have : flats K = flats (K.take i) ++ flats (K.drop i) := by rw [← flats_app, List.take_append_drop]
  rw [this, List.length_append]; omega
/-- The contract of the document's kind. -/
abbrev KindC (s : List Cl) (t : Tr) : Prop := ∀ (v sv : Value) (w : World), Rw w [] v t.flat → Cw w [] sv s → Calls Try.prog 36 #[v, sv] w fun e w' => e = .returned (.tuple #[.int .i64 (exK (evT (kdF s) t)), .int .i64 (exE (evT (kdF s) t))]) ∧ Ext w w'
set_option maxHeartbeats 8000000 in
set_option maxRecDepth 100000 in
theorem refKind_core (s : List Cl) (t : Tr) (tg : t.good) (h64 : t.flat.length ≤ 64) (ih : ∀ k ∈ t.kids, KindC s k) : KindC s t := by
  intro v sv w h hs
  obtain ⟨R, hR⟩ : ∃ R, R = evT (kdF s) t := ⟨_, rfl⟩
  rw [← hR]
  rw [evT_kids] at hR
  have hpt := hide (refParts_c t tg h64 v w h)
  have hkg := t.kids_good tg
  have hkl := t.kids_len tg
  have hok := t.top_ok tg
  have hk2 : t.kids.length ≤ 2 := by cases t <;> simp [Tr.kids]
  have hfl : t.flat = flats t.kids ++ [t.top] := by rw [Tr.flat_kids]; rfl
  have hlen : t.flat.length = (flats t.kids).length + 1 := by rw [hfl]; simp
  obtain ⟨A, cap, rfl, hl, hm, hat⟩ := rw_form h
  obtain ⟨b, off, rfl, -, hb, c0, c1, c2⟩ := hat (flats t.kids).length t.top (by rw [hfl]; simp)
  replace ih := hide (fun k hk v w' (hX : Ext w w') hv => ih k hk v sv w' hv (Sl.ext hs hX))
  obtain ⟨B, scap, rfl, hsl, hsm, hsat⟩ := cw_form hs
  rw [hlen] at hl h64 hpt ⊢
  clear hat h hs hfl hlen hm hsm
  generalize t.kids = K at *
  generalize t.top = o at *
  generalize (flats K).length = m at *
  replace hkg := hide hkg
  replace hR := hide hR
  replace hkl := hide hkl
  replace hsat := hide hsat
  obtain ⟨oc, on, os⟩ := o
  simp only at c0 c1 c2
  have hm1 : (m : Int) < m + 1 := by omega
  go_enter Try.func36, Try.ntmps36
  go_wp2_with (first | (go_at_call 63; refine hpt.out.mono ?_; rintro ee w1 ⟨v1, rfl, hP, hx1⟩; obtain ⟨P, pc, rfl⟩ : ∃ P pc, v1 = .slice P (K.map Tr.flat).length pc := (let ⟨us, ho, _⟩ := hP; own_form ho); have hlit := hide (World.ownsRow_lit (base := w1.heap.size) (e := 32) (size := 1) w1 #[] 0 (Nat.le_refl _) (by decide) rfl)))
  clear hpt
  replace hP := hide hP
  go_loopg [7, 8] K.length (fun gh kv iv wr => ∃ (i : Nat) (acc : List Int), iv = .int .i64 i ∧ i + gh = K.length ∧ Hid (i = acc.length) ∧ wr.ownsRow w1.heap.size 32 1 kv i (ic acc) ∧ Hid (evL (kdF s) (K.take i) = .ok acc) ∧ Ext w1 wr)
  case atStart => exact ⟨0, [], rfl, by omega, rfl, (by have h := hlit.out; exact h), rfl, (Ext.refl w1).alloc _⟩
  case round =>
    obtain ⟨i, acc, rfl, hi, hia, ho, hev, hX⟩ := hrel
    clear hlit
    have hzX := hX.size
    by_cases hlt : i < K.length
    · obtain ⟨k, hk⟩ : ∃ k, K[i]? = some k := ⟨_, List.getElem?_eq_getElem hlt⟩
      obtain ⟨gp, pcap, A1, c3, e, hgp, hcell, hrw⟩ := parts_at (hP.out.ext hX) i k.flat (by rw [List.getElem?_map, hk]; rfl)
      obtain ⟨rfl, -, rfl⟩ := Value.slice.inj e
      haveI : In gp wr := ⟨hgp⟩
      have hcall := hide (ih.out k (List.mem_of_getElem? hk) _ wr (hx1.trans hX) hrw)
      have hsn := evL_snoc (kdF s) (K.take i) k acc hev.out
      have her := fun e => evL_err (kdF s) K i k acc e hk hev.out
      have hez := evT_err (s := s) k
      have htk : K.take (i + 1) = K.take i ++ [k] := by rw [List.take_add_one, hk, Option.toList_some]
      rw [← htk] at hsn
      have hltI : (i : Int) < K.length := by omega
      clear e hk htk
      generalize evT (kdF s) k = Z at *
      cases Z with
      | error e =>
        have hFo : Hid (R = .error e) := by show _ = _; rw [hR.out, her e rfl]
        have hezI : (e != 0) = true := by rw [bne_iff_ne]; exact hez e rfl
        clear hsn her hez
        replace hcall := hide (show Calls Try.prog 36 _ wr fun ee w'' => ee = .returned (.tuple #[.int .i64 0, .int .i64 e]) ∧ Ext wr w'' from hcall.out)
        go_wp2_with (go_at_call 36; (with_reducible refine seq_gw hcall.out ?_); intro g)
        go_returns
        exact ⟨by rw [hFo.out]; rfl, (hx1.trans hX).trans g.grown⟩
      | ok x =>
        have hsn2 := hide hsn
        clear hsn her hez
        replace hcall := hide (show Calls Try.prog 36 _ wr fun ee w'' => ee = .returned (.tuple #[.int .i64 x, .int .i64 0]) ∧ Ext wr w'' from hcall.out)
        go_wp2_with (first | (go_at_call 36; (with_reducible refine seq_gw hcall.out ?_); intro g) | (at_builtin; (refine wpl_app tKnd rfl (.tmp 35) (.tmp 37) rfl rfl (own_ext ho (g.grown.alloc _)) rfl (src_cell1 Try.underlying67 g.val _ rfl _) (by unfold maxLen; omega) (by omega) (by simp only [World.size_alloc]; have := GW.size g; omega) ?_; intro v2 w2 ho2 hg2 _)))
        go_roundg (K.length - (i + 1))
        case measure => omega
        case rel => exact ⟨i + 1, acc ++ [x], by go_num, by omega, (by show _ = _; rw [List.length_append, List.length_singleton, hia.out]), (by rw [← ic_app]; exact ho2), hsn2.out, ext_grown ((hX.trans g.grown).alloc _) hg2 (fun k hk => (ho.lt k hk).1)⟩
    · have hik : i = K.length := by omega
      have hge : (K.length : Int) ≤ i := by omega
      rw [hik, List.take_length] at hev
      have hR2 := hR.out
      rw [hev.out] at hR2
      replace hR2 : R = kdF s (oc, on, os) acc := hR2
      have k0 := cell_later (hx1.trans hX) c0
      have k1 := cell_later (hx1.trans hX) c1
      have k2 := cell_later (hx1.trans hX) c2
      have hbr := block_lt_of_cell k0
      haveI : In b wr := ⟨hbr⟩
      have hXw := hide (hx1.trans hX)
      have hkl2 : tkI oc = (acc.length : Int) := by have h1 : tkI oc = (K.length : Int) := hkl.out; have h2 := hia.out; rw [h1, ← hik, h2]
      rw [hia.out] at ho
      obtain ⟨Q, qc, rfl⟩ := own_form ho
      have hkw : Hid (Kw wr [] (.slice Q acc.length qc) acc) := Sl.own (S := []) ho (by simp)
      rw [← hik] at hi
      have ha2 : acc.length ≤ 2 := by have := hia.out; omega
      clear hR hev hkl hP ih hlt hik c0 c1 c2
      obtain ⟨wo, hwo⟩ : ∃ x, x = wr := ⟨_, rfl⟩
      subst hwo
      have hOb := hide (Ob.new wo 40 [.int .i64 oc, .int .i64 on, .string os])
      by_cases h3 : oc = 3
      · subst h3
        have hn8 : 0 ≤ on ∧ on < 8 := by rw [okW_3, Bool.and_eq_true, decide_eq_true_iff] at hok; exact hok.1
        obtain ⟨n, rfl⟩ := Int.eq_ofNat_of_zero_le hn8.1
        have hXo := hide (Ext.refl (wo.alloc (.cells #[.int .i64 3, .int .i64 (n : Int), .string os] 40)))
        by_cases hi2 : n < s.length
        · obtain ⟨y, hy⟩ : ∃ y, s[n]? = some y := ⟨_, List.getElem?_eq_getElem hi2⟩
          have hFo : Hid (R = .ok y.2) := by show _ = _; rw [hR2]; unfold kdF; rw [if_pos rfl]; simp only [Int.toNat_natCast]; rw [hy]
          obtain ⟨bs, os', rfl, -, hbs, d0, d1⟩ := hsat.out n y hy
          have e1 := cell_later hXw.out d1
          have hbs' := block_lt_of_cell e1
          haveI : In bs wo := ⟨hbs'⟩
          have hnI : ¬ (s.length : Int) ≤ (n : Int) := by omega
          have hnI' : (n : Int) < s.length := by omega
          obtain ⟨yn, yk⟩ := y
          clear hsat hR2 hy d0 d1 hok hkl2
          go_wp2_with fail
          go_returns
          exact ⟨by rw [hFo.out]; rfl, hXw.out.alloc _⟩
        · have hFo : Hid (R = .error 3) := by show _ = _; rw [hR2]; unfold kdF; rw [if_pos rfl]; simp only [Int.toNat_natCast]; rw [List.getElem?_eq_none (by omega)]
          have hnI : (s.length : Int) ≤ (n : Int) := by omega
          clear hsat hR2 hok hkl2
          go_wp2_with fail
          go_returns
          exact ⟨by rw [hFo.out]; rfl, hXw.out.alloc _⟩
      clear hsat
      have b3 : (oc == 3) = false := by rw [beq_eq_false_iff_ne]; exact h3
      by_cases h2 : oc = 2
      · subst h2
        have hFo : Hid (R = .ok 2) := by show _ = _; rw [hR2]; rfl
        clear hR2 hok hkl2 b3 h3
        go_wp2_with fail
        go_returns
        exact ⟨by rw [hFo.out]; rfl, hXw.out.alloc _⟩
      have b2 : (oc == 2) = false := by rw [beq_eq_false_iff_ne]; exact h2
      rw [kd_not3 h3 h2] at hR2
      simp only at hR2
      by_cases h12 : oc = 12
      · subst h12
        have hF : Hid (R = if (acc.any fun k => k != 2) = true then .error 12 else .ok 2) := hR2
        clear hR2 hok hkl2 b3 b2 h3 h2
        go_wp2_with fail
        go_loopg [12] acc.length (fun gh iv wr => ∃ (j : Nat), iv = .int .i64 j ∧ j + gh = acc.length ∧ Hid (∀ k ∈ acc.take j, k = 2) ∧ Ext (wo.alloc (.cells #[.int .i64 12, .int .i64 on, .string os] 40)) wr)
        case atStart => exact ⟨0, rfl, by omega, (by intro k hk; simp at hk), Ext.refl _⟩
        case round =>
          obtain ⟨j, rfl, hj, hall, hX3⟩ := hrel
          have q0 := (hOb.out.ext hX3).cell 0 rfl
          have hb3 := block_lt_of_cell q0
          haveI : In wo.heap.size wr := ⟨hb3⟩
          by_cases hjl : j < acc.length
          · obtain ⟨x, hx⟩ : ∃ x, acc[j]? = some x := ⟨_, List.getElem?_eq_getElem hjl⟩
            obtain ⟨A', c', ekw, -, -, hka⟩ := kw_form (Sl.ext hkw.out (((Ext.refl wo).alloc _).trans hX3))
            obtain ⟨rfl, -, rfl⟩ := Value.slice.inj ekw
            obtain ⟨bk, ok, rfl, -, hbk, kc⟩ := hka j x hx
            haveI : In bk wr := ⟨hbk⟩
            have hjI : (j : Int) < acc.length := by omega
            have hacc0 : (0 : Int) < acc.length := by omega
            by_cases hxm : x = 2
            · have hnx : Hid (∀ k ∈ acc.take (j + 1), k = 2) := by
                intro k hk
                rw [List.take_add_one, hx] at hk
                rcases List.mem_append.1 hk with hk | hk
                · exact hall.out k hk
                · simp at hk; rw [hk]; exact hxm
              subst hxm
              clear hka hx ekw
              go_wp2_with fail
              go_roundg (acc.length - (j + 1))
              case measure => omega
              case rel => exact ⟨j + 1, by go_num, by omega, hnx, hX3⟩
            · have hFo : Hid (R = .error 12) := by
                show _ = _
                rw [hF.out, if_pos]
                rw [List.any_eq_true]
                exact ⟨x, List.mem_of_getElem? hx, by rw [bne_iff_ne]; exact hxm⟩
              have hxI : (x != 2) = true := by rw [bne_iff_ne]; exact hxm
              clear hka hx ekw hxm
              go_wp2_with fail
              go_returns
              exact ⟨by rw [hFo.out]; rfl, (hXw.out.alloc _).trans hX3⟩
          · have hje : j = acc.length := by omega
            have hgeI : (acc.length : Int) ≤ j := by omega
            have hFo : Hid (R = .ok 2) := by
              show _ = _
              rw [hF.out, if_neg]
              rw [List.any_eq_true]
              rintro ⟨x, hx, hne⟩
              rw [bne_iff_ne] at hne
              refine hne (hall.out x ?_)
              rw [hje, List.take_length]; exact hx
            clear hjl hje hall
            go_wp2_with fail
            go_returns
            exact ⟨by rw [hFo.out]; rfl, (hXw.out.alloc _).trans hX3⟩
      rw [if_neg h12] at hR2
      have b12 : (oc == 12) = false := by rw [beq_eq_false_iff_ne]; exact h12
      by_cases h6 : oc = 6
      · subst h6
        have hF : Hid (R = if (acc.any fun k => k != 2) = true then .error 12 else .ok 1) := hR2
        clear hR2 hok hkl2 b3 b2 h3 h2 h12 b12
        go_wp2_with fail
        go_loopg [12] acc.length (fun gh iv wr => ∃ (j : Nat), iv = .int .i64 j ∧ j + gh = acc.length ∧ Hid (∀ k ∈ acc.take j, k = 2) ∧ Ext (wo.alloc (.cells #[.int .i64 6, .int .i64 on, .string os] 40)) wr)
        case atStart => exact ⟨0, rfl, by omega, (by intro k hk; simp at hk), Ext.refl _⟩
        case round =>
          obtain ⟨j, rfl, hj, hall, hX3⟩ := hrel
          have q0 := (hOb.out.ext hX3).cell 0 rfl
          have hb3 := block_lt_of_cell q0
          haveI : In wo.heap.size wr := ⟨hb3⟩
          by_cases hjl : j < acc.length
          · obtain ⟨x, hx⟩ : ∃ x, acc[j]? = some x := ⟨_, List.getElem?_eq_getElem hjl⟩
            obtain ⟨A', c', ekw, -, -, hka⟩ := kw_form (Sl.ext hkw.out (((Ext.refl wo).alloc _).trans hX3))
            obtain ⟨rfl, -, rfl⟩ := Value.slice.inj ekw
            obtain ⟨bk, ok, rfl, -, hbk, kc⟩ := hka j x hx
            haveI : In bk wr := ⟨hbk⟩
            have hjI : (j : Int) < acc.length := by omega
            have hacc0 : (0 : Int) < acc.length := by omega
            by_cases hxm : x = 2
            · have hnx : Hid (∀ k ∈ acc.take (j + 1), k = 2) := by
                intro k hk
                rw [List.take_add_one, hx] at hk
                rcases List.mem_append.1 hk with hk | hk
                · exact hall.out k hk
                · simp at hk; rw [hk]; exact hxm
              subst hxm
              clear hka hx ekw
              go_wp2_with fail
              go_roundg (acc.length - (j + 1))
              case measure => omega
              case rel => exact ⟨j + 1, by go_num, by omega, hnx, hX3⟩
            · have hFo : Hid (R = .error 12) := by
                show _ = _
                rw [hF.out, if_pos]
                rw [List.any_eq_true]
                exact ⟨x, List.mem_of_getElem? hx, by rw [bne_iff_ne]; exact hxm⟩
              have hxI : (x != 2) = true := by rw [bne_iff_ne]; exact hxm
              clear hka hx ekw hxm
              go_wp2_with fail
              go_returns
              exact ⟨by rw [hFo.out]; rfl, (hXw.out.alloc _).trans hX3⟩
          · have hje : j = acc.length := by omega
            have hgeI : (acc.length : Int) ≤ j := by omega
            have hFo : Hid (R = .ok 1) := by
              show _ = _
              rw [hF.out, if_neg]
              rw [List.any_eq_true]
              rintro ⟨x, hx, hne⟩
              rw [bne_iff_ne] at hne
              refine hne (hall.out x ?_)
              rw [hje, List.take_length]; exact hx
            clear hjl hje hall
            go_wp2_with fail
            go_returns
            exact ⟨by rw [hFo.out]; rfl, (hXw.out.alloc _).trans hX3⟩
      have b6 : (oc == 6) = false := by rw [beq_eq_false_iff_ne]; exact h6
      by_cases hcmp : 13 ≤ oc ∧ oc ≤ 18
      · obtain ⟨k0, kr, rfl⟩ : ∃ k0 kr, acc = k0 :: kr := by
          have ht2 : tkI oc = 2 := tkI_iff2.2 (by omega)
          match acc, hkl2 with
          | [], hn => rw [ht2] at hn; cases hn
          | k0 :: kr, _ => exact ⟨k0, kr, rfl⟩
        have hm2 : mustK oc (k0 :: kr) = k0 := by unfold mustK; rw [if_neg (by omega), if_pos hcmp]; rfl
        rw [hm2] at hR2
        have hF : Hid (R = if ((k0 :: kr).any fun k => k != k0) = true then .error 12 else .ok 1) := hR2
        have hk0 : Hid ((k0 :: kr)[0]? = some k0) := rfl
        obtain ⟨g13, g18⟩ := hcmp
        generalize k0 :: kr = acc at *
        clear hR2 hok hkl2 h3 h2 h12 h6 hm2
        go_wp2_with fail
        go_loopg [12] acc.length (fun gh iv wr => ∃ (j : Nat), iv = .int .i64 j ∧ j + gh = acc.length ∧ Hid (∀ k ∈ acc.take j, k = k0) ∧ Ext (wo.alloc (.cells #[.int .i64 oc, .int .i64 on, .string os] 40)) wr)
        case atStart => exact ⟨0, rfl, by omega, (by intro k hk; simp at hk), Ext.refl _⟩
        case round =>
          obtain ⟨j, rfl, hj, hall, hX3⟩ := hrel
          have q0 := (hOb.out.ext hX3).cell 0 rfl
          have hb3 := block_lt_of_cell q0
          haveI : In wo.heap.size wr := ⟨hb3⟩
          by_cases hjl : j < acc.length
          · obtain ⟨x, hx⟩ : ∃ x, acc[j]? = some x := ⟨_, List.getElem?_eq_getElem hjl⟩
            obtain ⟨A', c', ekw, -, -, hka⟩ := kw_form (Sl.ext hkw.out (((Ext.refl wo).alloc _).trans hX3))
            obtain ⟨rfl, -, rfl⟩ := Value.slice.inj ekw
            obtain ⟨bk, ok, rfl, -, hbk, kc⟩ := hka j x hx
            haveI : In bk wr := ⟨hbk⟩
            have hjI : (j : Int) < acc.length := by omega
            have hacc0 : (0 : Int) < acc.length := by omega
            obtain ⟨bk0, ok0, e0, -, hbk0, kc0⟩ := hka 0 k0 hk0.out
            obtain ⟨rfl, rfl⟩ : bk = bk0 ∧ ok = ok0 := by simpa using e0
            rw [Nat.add_zero] at kc0
            clear e0
            by_cases hxm : x = k0
            · have hnx : Hid (∀ k ∈ acc.take (j + 1), k = k0) := by
                intro k hk
                rw [List.take_add_one, hx] at hk
                rcases List.mem_append.1 hk with hk | hk
                · exact hall.out k hk
                · simp at hk; rw [hk]; exact hxm
              subst hxm
              clear hka hx ekw
              go_wp2_with fail
              go_roundg (acc.length - (j + 1))
              case measure => omega
              case rel => exact ⟨j + 1, by go_num, by omega, hnx, hX3⟩
            · have hFo : Hid (R = .error 12) := by
                show _ = _
                rw [hF.out, if_pos]
                rw [List.any_eq_true]
                exact ⟨x, List.mem_of_getElem? hx, by rw [bne_iff_ne]; exact hxm⟩
              have hxI : (x != k0) = true := by rw [bne_iff_ne]; exact hxm
              clear hka hx ekw hxm
              go_wp2_with fail
              go_returns
              exact ⟨by rw [hFo.out]; rfl, (hXw.out.alloc _).trans hX3⟩
          · have hje : j = acc.length := by omega
            have hgeI : (acc.length : Int) ≤ j := by omega
            have hFo : Hid (R = .ok 1) := by
              show _ = _
              rw [hF.out, if_neg]
              rw [List.any_eq_true]
              rintro ⟨x, hx, hne⟩
              rw [bne_iff_ne] at hne
              refine hne (hall.out x ?_)
              rw [hje, List.take_length]; exact hx
            clear hjl hje hall
            go_wp2_with fail
            go_returns
            exact ⟨by rw [hFo.out]; rfl, (hXw.out.alloc _).trans hX3⟩
      · have hm2 : mustK oc acc = 1 := by unfold mustK; rw [if_neg (by omega), if_neg hcmp]
        rw [hm2] at hR2
        have hF : Hid (R = if (acc.any fun k => k != 1) = true then .error 12 else .ok 1) := hR2
        clear hR2 hok hkl2 h3 h2 h12 h6 hm2
        by_cases g13 : 13 ≤ oc
        · have g18 : decide (oc ≤ 18) = false := by rw [decide_eq_false_iff_not]; exact fun h => hcmp ⟨g13, h⟩
          clear hcmp
          go_wp2_with fail
          go_loopg [12] acc.length (fun gh iv wr => ∃ (j : Nat), iv = .int .i64 j ∧ j + gh = acc.length ∧ Hid (∀ k ∈ acc.take j, k = 1) ∧ Ext (wo.alloc (.cells #[.int .i64 oc, .int .i64 on, .string os] 40)) wr)
          case atStart => exact ⟨0, rfl, by omega, (by intro k hk; simp at hk), Ext.refl _⟩
          case round =>
            obtain ⟨j, rfl, hj, hall, hX3⟩ := hrel
            have q0 := (hOb.out.ext hX3).cell 0 rfl
            have hb3 := block_lt_of_cell q0
            haveI : In wo.heap.size wr := ⟨hb3⟩
            by_cases hjl : j < acc.length
            · obtain ⟨x, hx⟩ : ∃ x, acc[j]? = some x := ⟨_, List.getElem?_eq_getElem hjl⟩
              obtain ⟨A', c', ekw, -, -, hka⟩ := kw_form (Sl.ext hkw.out (((Ext.refl wo).alloc _).trans hX3))
              obtain ⟨rfl, -, rfl⟩ := Value.slice.inj ekw
              obtain ⟨bk, ok, rfl, -, hbk, kc⟩ := hka j x hx
              haveI : In bk wr := ⟨hbk⟩
              have hjI : (j : Int) < acc.length := by omega
              have hacc0 : (0 : Int) < acc.length := by omega
              by_cases hxm : x = 1
              · have hnx : Hid (∀ k ∈ acc.take (j + 1), k = 1) := by
                  intro k hk
                  rw [List.take_add_one, hx] at hk
                  rcases List.mem_append.1 hk with hk | hk
                  · exact hall.out k hk
                  · simp at hk; rw [hk]; exact hxm
                subst hxm
                clear hka hx ekw
                go_wp2_with fail
                go_roundg (acc.length - (j + 1))
                case measure => omega
                case rel => exact ⟨j + 1, by go_num, by omega, hnx, hX3⟩
              · have hFo : Hid (R = .error 12) := by
                  show _ = _
                  rw [hF.out, if_pos]
                  rw [List.any_eq_true]
                  exact ⟨x, List.mem_of_getElem? hx, by rw [bne_iff_ne]; exact hxm⟩
                have hxI : (x != 1) = true := by rw [bne_iff_ne]; exact hxm
                clear hka hx ekw hxm
                go_wp2_with fail
                go_returns
                exact ⟨by rw [hFo.out]; rfl, (hXw.out.alloc _).trans hX3⟩
            · have hje : j = acc.length := by omega
              have hgeI : (acc.length : Int) ≤ j := by omega
              have hFo : Hid (R = .ok 1) := by
                show _ = _
                rw [hF.out, if_neg]
                rw [List.any_eq_true]
                rintro ⟨x, hx, hne⟩
                rw [bne_iff_ne] at hne
                refine hne (hall.out x ?_)
                rw [hje, List.take_length]; exact hx
              clear hjl hje hall
              go_wp2_with fail
              go_returns
              exact ⟨by rw [hFo.out]; rfl, (hXw.out.alloc _).trans hX3⟩
        · have g13' : decide (13 ≤ oc) = false := by rw [decide_eq_false_iff_not]; exact g13
          clear hcmp g13
          go_wp2_with fail
          go_loopg [12] acc.length (fun gh iv wr => ∃ (j : Nat), iv = .int .i64 j ∧ j + gh = acc.length ∧ Hid (∀ k ∈ acc.take j, k = 1) ∧ Ext (wo.alloc (.cells #[.int .i64 oc, .int .i64 on, .string os] 40)) wr)
          case atStart => exact ⟨0, rfl, by omega, (by intro k hk; simp at hk), Ext.refl _⟩
          case round =>
            obtain ⟨j, rfl, hj, hall, hX3⟩ := hrel
            have q0 := (hOb.out.ext hX3).cell 0 rfl
            have hb3 := block_lt_of_cell q0
            haveI : In wo.heap.size wr := ⟨hb3⟩
            by_cases hjl : j < acc.length
            · obtain ⟨x, hx⟩ : ∃ x, acc[j]? = some x := ⟨_, List.getElem?_eq_getElem hjl⟩
              obtain ⟨A', c', ekw, -, -, hka⟩ := kw_form (Sl.ext hkw.out (((Ext.refl wo).alloc _).trans hX3))
              obtain ⟨rfl, -, rfl⟩ := Value.slice.inj ekw
              obtain ⟨bk, ok, rfl, -, hbk, kc⟩ := hka j x hx
              haveI : In bk wr := ⟨hbk⟩
              have hjI : (j : Int) < acc.length := by omega
              have hacc0 : (0 : Int) < acc.length := by omega
              by_cases hxm : x = 1
              · have hnx : Hid (∀ k ∈ acc.take (j + 1), k = 1) := by
                  intro k hk
                  rw [List.take_add_one, hx] at hk
                  rcases List.mem_append.1 hk with hk | hk
                  · exact hall.out k hk
                  · simp at hk; rw [hk]; exact hxm
                subst hxm
                clear hka hx ekw
                go_wp2_with fail
                go_roundg (acc.length - (j + 1))
                case measure => omega
                case rel => exact ⟨j + 1, by go_num, by omega, hnx, hX3⟩
              · have hFo : Hid (R = .error 12) := by
                  show _ = _
                  rw [hF.out, if_pos]
                  rw [List.any_eq_true]
                  exact ⟨x, List.mem_of_getElem? hx, by rw [bne_iff_ne]; exact hxm⟩
                have hxI : (x != 1) = true := by rw [bne_iff_ne]; exact hxm
                clear hka hx ekw hxm
                go_wp2_with fail
                go_returns
                exact ⟨by rw [hFo.out]; rfl, (hXw.out.alloc _).trans hX3⟩
            · have hje : j = acc.length := by omega
              have hgeI : (acc.length : Int) ≤ j := by omega
              have hFo : Hid (R = .ok 1) := by
                show _ = _
                rw [hF.out, if_neg]
                rw [List.any_eq_true]
                rintro ⟨x, hx, hne⟩
                rw [bne_iff_ne] at hne
                refine hne (hall.out x ?_)
                rw [hje, List.take_length]; exact hx
              clear hjl hje hall
              go_wp2_with fail
              go_returns
              exact ⟨by rw [hFo.out]; rfl, (hXw.out.alloc _).trans hX3⟩
theorem refKind_c (s : List Cl) : ∀ (t : Tr), t.good → t.flat.length ≤ 64 → KindC s t
  | .leaf o, g, h => refKind_core s (.leaf o) g h (by simp [Tr.kids])
  | .one o a, g, h => refKind_core s (.one o a) g h (by
    have ha := refKind_c s a g.2.2 (by simp [Tr.flat] at h; omega)
    intro k hk
    simp only [Tr.kids, List.mem_cons, List.not_mem_nil, or_false] at hk
    subst hk; exact ha)
  | .two o a b, g, h => refKind_core s (.two o a b) g h (by
    have ha := refKind_c s a g.2.2.1 (by simp [Tr.flat] at h; omega)
    have hb := refKind_c s b g.2.2.2 (by simp [Tr.flat] at h; omega)
    intro k hk
    simp only [Tr.kids, List.mem_cons, List.not_mem_nil, or_false] at hk
    rcases hk with rfl | rfl
    · exact ha
    · exact hb)
set_option maxHeartbeats 2000000 in
set_option maxRecDepth 100000 in
theorem refCheck_c (s : List Cl) (l : List Vl) (v sv : Value) (w : World) (h : Rw w [] v l) (hs : Cw w [] sv s) :
    Calls Try.prog 16 #[v, sv] w fun e w' => e = .returned (.tuple #[.int .i64 (exK (ckF s l)), .int .i64 (exE (ckF s l))]) ∧ Ext w w' := by
  obtain ⟨F, hF⟩ : ∃ F, F = ckF s l := ⟨_, rfl⟩
  rw [← hF]
  have hform := hide (refForm_c l v w h)
  have hmay := hide (fun w' (hX : Ext w w') => refMayS_c s sv w' (Sl.ext hs hX))
  by_cases hz : formE l = 0
  · rw [hz] at hform
    obtain ⟨t, g, rfl, h64⟩ := formE_tree hz
    have hkc := hide (fun w' (hX : Ext w w') => refKind_c s t g h64 v sv w' (Sl.ext h hX) (Sl.ext hs hX))
    rw [ckF_tree g h64] at hF
    obtain ⟨A, cap, rfl, -, -, -⟩ := rw_form h
    obtain ⟨B, scap, rfl, -, -, -⟩ := cw_form hs
    clear h hs hz
    cases hms : mayS s
    · rw [hms, if_pos rfl] at hF
      rw [hms] at hmay
      have hFo : Hid (F = .error 17) := hF
      clear hF hkc hms
      go_enter Try.func16, Try.ntmps16
      go_wp2_with (first | (go_at_call 12; (with_reducible refine seq_gw hform.out ?_); intro g) | (go_at_call 35; (with_reducible refine seq_gw' (hmay.out _ g.grown) ?_); intro g2))
      go_returns
      exact ⟨by rw [hFo.out]; rfl, g2.grown⟩
    · rw [hms, if_neg (by simp)] at hF
      rw [hms] at hmay
      rw [← hF] at hkc
      clear hms hF
      go_enter Try.func16, Try.ntmps16
      go_wp2_with (first | (go_at_call 12; (with_reducible refine seq_gw hform.out ?_); intro g) | (go_at_call 35; (with_reducible refine seq_gw' (hmay.out _ g.grown) ?_); intro g2) | (go_at_call 36; (with_reducible refine seq_gw' (hkc.out _ g2.grown) ?_); intro g3))
      go_returns
      exact ⟨rfl, g3.grown⟩
  · have hFo : Hid (F = .error (formE l)) := by show _ = _; rw [hF]; unfold ckF; rw [if_pos hz]
    have hzI : (formE l != 0) = true := by simpa using hz
    obtain ⟨A, cap, rfl, -, -, -⟩ := rw_form h
    obtain ⟨B, scap, rfl, -, -, -⟩ := cw_form hs
    generalize formE l = E at *
    clear h hs hz hF hmay
    go_enter Try.func16, Try.ntmps16
    go_wp2_with (first | (go_at_call 12; (with_reducible refine seq_gw hform.out ?_); intro g))
    go_returns
    exact ⟨by rw [hFo.out]; rfl, g.grown⟩
end Go.Proofs.Ytldepealkomjlaa
