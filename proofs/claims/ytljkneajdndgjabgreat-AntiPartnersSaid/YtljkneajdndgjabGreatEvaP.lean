/-
  A helper of ours: no claim of its own. Layer 18 (eval): an expression's answer is what its last word makes of its parts' answers (lists).
-/
import Derived.Test.YtljkneajdndgjabGreatAntA
import Derived.Test.YtljkneajdndgjabGreatRf
import Derived.Test.YtljkneajdndgjabGreatReg3
import Derived.Test.YtljkneajdndgjabGreatRowC
set_option linter.unusedVariables false
set_option linter.unusedSimpArgs false
namespace Go.Proofs.YtljkneajdndgjabGreat
open Go.RowKit
attribute [local go_sem] GW.cell GW.frozen In.eq_true In.le_true In.ne In.ne' In.ne_add In.ne_add' In.lt_add Upto.le_true Upto.le_add Upto.lt_add
end Go.Proofs.YtljkneajdndgjabGreat
set_option linter.unusedVariables false
set_option linter.unusedSimpArgs false
namespace Go.Proofs.YtljkneajdndgjabGreat
open Go.RowKit
attribute [local go_sem] GW.cell GW.frozen In.eq_true In.le_true In.ne In.ne' In.ne_add In.ne_add' In.lt_add Upto.le_true Upto.le_add Upto.lt_add
def w1 : Vl := (1, 1, ⟨#[]⟩)
def w2 : Vl := (1, 2, ⟨#[]⟩)
end Go.Proofs.YtljkneajdndgjabGreat
set_option linter.unusedVariables false
set_option linter.unusedSimpArgs false
namespace Go.Proofs.YtljkneajdndgjabGreat
open Go.RowKit
theorem cutA_zero (b o cap s : Nat) : cutA (some ⟨b, o, none⟩) 0 cap s = some ⟨b, o, none⟩ := by
  unfold cutA; split
  · rfl
  · simp [add_plain]
attribute [-go_sem] sliced
attribute [local go_sem] sliced_eq cutA_zero
attribute [local go_sem] GW.cell GW.frozen In.eq_true In.le_true In.ne In.ne' In.ne_add In.ne_add' In.lt_add Upto.le_true Upto.le_add Upto.lt_add
/-- A part in front of others. -/
theorem PartsIn.src {w : World} {base : Nat} {v : Value} {L : List (List Vl)} (h : PartsIn w base v L) : ∃ us : List Value, w.ownsRow base 24 1 v L.length us ∧ (∀ u ∈ us, u.oneCell' = true) ∧ ∀ (i : Nat) (l : List Vl), L[i]? = some l → ∃ u, us[i]? = some u ∧ Rw w [] u l := by
  obtain ⟨us, ho, hr⟩ := h
  refine ⟨us, ho, fun u hu => ?_, hr⟩
  obtain ⟨i, hi⟩ := List.getElem?_of_mem hu
  have hlt := (List.getElem?_eq_some_iff.1 hi).1
  have hl := ho.1
  obtain ⟨l, hl'⟩ : ∃ l, L[i]? = some l := ⟨_, List.getElem?_eq_getElem (by omega)⟩
  obtain ⟨u', hu', hw⟩ := hr i l hl'
  rw [hi] at hu'
  obtain rfl := Option.some.inj hu'
  obtain ⟨A, c, rfl, -⟩ := rw_form hw
  rfl
theorem PartsIn.cons {w w' : World} {base : Nat} {v' u : Value} {us : List Value} {l : List Vl} {L : List (List Vl)} (hr : ∀ (i : Nat) (l : List Vl), L[i]? = some l → ∃ u, us[i]? = some u ∧ Rw w [] u l) (hu : Rw w [] u l) (hX : Ext w w')
    (ho : w'.ownsRow base 24 1 v' (1 + L.length) ([u] ++ us)) : PartsIn w' base v' (l :: L) := by
  refine ⟨u :: us, by rw [List.length_cons, Nat.add_comm]; exact ho, fun i m hm => ?_⟩
  match i, hm with
  | 0, hm =>
    obtain rfl : l = m := by simpa using hm
    exact ⟨u, rfl, Sl.ext hu hX⟩
  | i + 1, hm =>
    obtain ⟨x, hx, hw⟩ := hr i m (by simpa using hm)
    exact ⟨x, by simpa using hx, Sl.ext hw hX⟩
set_option maxHeartbeats 8000000 in
set_option maxRecDepth 100000 in
theorem refParts_c (t : Tr) (tg : t.good) (h64 : t.flat.length ≤ 64) (v : Value) (w : World) (h : Rw w [] v t.flat) : Calls Tryz.prog 159 #[v] w fun e w' => ∃ v', e = .returned v' ∧ PartsIn w' w.heap.size v' (t.kids.map Tr.flat) ∧ Ext w w' := by
  obtain ⟨A, cap, rfl, hl, hm, hat⟩ := rw_form h
  have hkg := t.kids_good tg
  have hkl := t.kids_len tg
  have hk2 : t.kids.length ≤ 2 := by cases t <;> simp [Tr.kids]
  have hfl : t.flat = flats t.kids ++ [t.top] := by rw [Tr.flat_kids]; rfl
  have hlen : t.flat.length = (flats t.kids).length + 1 := by rw [hfl]; simp
  obtain ⟨b, off, rfl, -, hb, c0, -, -⟩ := hat (flats t.kids).length t.top (by rw [hfl]; simp)
  have htk := hide (fun w => refTakes_c t.top.1 w)
  rw [hkl] at htk
  have hrest : Hid (∀ (ks rs : List Tr), t.kids = ks ++ rs → Rw w [] (.slice (some ⟨b, off, none⟩) (flats ks).length cap) (flats ks)) := by
    intro ks rs e
    have h1 : (flats ks).length ≤ t.flat.length := by rw [hfl, e, flats_app]; simp
    have h2 := rw_cut h (flats ks).length h1
    rw [cutA_zero] at h2
    have h3 : t.flat.take (flats ks).length = flats ks := by
      rw [hfl, e, flats_app, List.append_assoc]; exact List.take_left' rfl
    rw [h3] at h2
    exact h2
  generalize t.kids = K at *
  generalize t.top = o at *
  generalize hmK : (flats K).length = m at *
  replace hmK := hide hmK
  rw [hlen] at hl h64 ⊢
  replace hkg := hide hkg
  clear hat h hfl hlen hm hkl
  obtain ⟨oc, on, os⟩ := o
  simp only at c0 htk
  have hm1 : (m : Int) < m + 1 := by omega
  have hcapm : (m : Int) ≤ cap := by omega
  have hlit := hide (World.ownsRow_lit (base := w.heap.size) (e := 24) (size := 1) w #[] 0 (Nat.le_refl _) (by decide) rfl)
  go_enter Tryz.func159, Tryz.ntmps159
  go_wp2_with fail
  go_loopg [3, 4, 5, 6] K.length (fun gh ov rv iv mv wr => ∃ (ks done : List Tr) (q i : Nat), iv = .int .i64 i ∧ rv = .slice (some ⟨b, off, none⟩) q cap ∧ i + gh = K.length ∧ Hid (K = ks ++ done) ∧ Hid (q = (flats ks).length) ∧ Hid (i = done.length) ∧ q ≤ m ∧ PartsIn wr w.heap.size ov (done.map Tr.flat) ∧ Ext w wr)
  case atStart => exact ⟨K, [], m, 0, rfl, rfl, by omega, (by show _ = _; simp), hmK.out.symm, rfl, Nat.le_refl _, ⟨[], (by have h := hlit.out; exact h), by simp⟩, (Ext.refl w).alloc _⟩
  case round =>
    obtain ⟨ks, done, q, i, rfl, rfl, hi, hK, hqe, hid, hq, hP, hX⟩ := hrel
    clear hlit
    have k0 := cell_later hX c0
    have hbr : b < wr.heap.size := block_lt_of_cell k0
    haveI : In b wr := ⟨hbr⟩
    by_cases hlt : i < K.length
    · have hltI : (i : Int) < K.length := by omega
      obtain ⟨ks, t', rfl⟩ : ∃ us t, ks = us ++ [t] := by
        rcases List.eq_nil_or_concat ks with rfl | ⟨us, t, e⟩
        · have := congrArg List.length hK.out
          rw [List.length_append] at this
          have e2 := hid.out
          simp at this; omega
        · exact ⟨us, t, by simpa using e⟩
      have hg' := hkg.out t' (by rw [hK.out]; simp)
      have e3 : flats (ks ++ [t']) = flats ks ++ t'.flat := by rw [flats_app]; simp [flats]
      have hrs := hrest.out _ _ hK.out
      have hq2 : q = (flats ks).length + t'.flat.length := by have := hqe.out; rwa [e3, List.length_append] at this
      rw [← hqe.out] at hrs
      have hrs' : Rw w [] (.slice (some ⟨b, off, none⟩) (flats (ks ++ [t'])).length cap) (flats (ks ++ [t'])) := by rw [← hqe.out]; exact hrs
      have htl := hide (fun w' (hx : Ext w w') => refTail_c _ (flats (ks ++ [t'])) (Nat.le_refl _) _ w' (Sl.ext hrs hx))
      rw [e3, tl_flat t' hg' (flats ks)] at htl
      have hmid : Rw w [] (.slice (cutA (some ⟨b, off, none⟩) (flats ks).length cap 3) t'.flat.length (cap - (flats ks).length)) t'.flat := by
        have hc := Sl.cut hrs' (flats ks).length (flats (ks ++ [t'])).length cap (by rw [← hqe.out]; omega) (Nat.le_refl _) (by rw [← hqe.out]; omega) (Nat.le_refl _)
        rw [sliced_eq, rc_take, rc_drop, List.take_length, e3, List.drop_left, List.length_append, Nat.add_sub_cancel_left] at hc
        exact hc
      have hKn : Hid (K = ks ++ (t' :: done)) := by show _ = _; rw [hK.out]; simp
      have hmapn : t'.flat :: done.map Tr.flat = (t' :: done).map Tr.flat := by simp
      have hpos := t'.flat_pos
      generalize hp : (flats ks).length = p at *
      replace hp := hide hp
      subst hq2
      generalize hd : t'.flat.length = d at *
      replace hd := hide hd
      replace hmid := hide hmid
      obtain ⟨us, hus, hone, hrr⟩ := hP.src
      rw [List.length_map, ← hid.out] at hus
      obtain ⟨P3, c3, rfl⟩ := own_form hus
      have hzX := hX.size
      have hcap2 : p + d ≤ cap := by omega
      have hdI : Hid (d ≤ 64) := by show _ ≤ _; omega
      replace hus := hide hus
      replace hone := hide hone
      replace hrr := hide hrr
      clear hK hqe hrs hrs' e3 hrest hkg hg' hP hpos
      go_wp2_with (first | (go_at_call 129; (with_reducible refine seq_gw (htk.out _) ?_); intro g3; have hX3 := hide (hX.trans g3.grown)) | (go_at_call 84; (with_reducible refine seq_gw' (htl.out _ hX3.out) ?_); intro g4) | (at_builtin; (refine wpl_app tOp rfl (.tmp 27) (.tmp 33) rfl rfl (World.ownsRow_lit (base := g4.val.heap.size) (e := 56) (size := 3) g4.val #[] 0 (Nat.le_refl _) (by decide) rfl) rfl (src_sl Tryz.underlying24 (Sl.ext hmid.out ((hX.trans g4.grown).alloc _)) (rc_one _) (by have := hdI.out; have := hd.out; omega)) (by unfold maxLen; have := hdI.out; have := hd.out; omega) (by have := hdI.out; have := hd.out; omega) (by simp only [World.size_alloc]; omega) ?_; intro v5 w5 ho5 hg5 _; have o5 : OwnX w5 g4.val.heap.size v5 t'.flat := (by have h := ho5; have := own_appX (l := []) h; simpa using this); obtain ⟨P5, c5, rfl⟩ := own_form o5; rw [hd.out]; have hX5 := hide (ext_grown ((Ext.refl g4.val).alloc (.cells #[] 56)) hg5 (fun k hk => ((World.ownsRow_lit (base := g4.val.heap.size) (e := 56) (size := 3) g4.val #[] 0 (Nat.le_refl _) (by decide) rfl).lt k hk).1)); have hz5 := hX5.out.size; have hz4 := GW.size g4; replace o5 := hide o5)) | (at_builtin; (refine wpl_app tPart rfl (.tmp 35) (.tmp 36) rfl rfl (World.ownsRow_lit (base := w.heap.size) (e := 24) (size := 1) w5 #[.slice P5 d c5] 1 (by omega) (by decide) rfl) rfl (src_sl Tryz.underlying170 (Sl.own (S := []) (own_ext hus.out ((g4.grown.trans hX5.out).alloc _)) (by simp)) hone.out (by omega)) (by unfold maxLen; omega) (by omega) (by simp only [World.size_alloc]; omega) ?_; intro v6 w6 ho6 hg6 _)))
      go_roundg (K.length - (i + 1))
      case measure => omega
      case rel =>
        have hX6 := hide (ext_grown ((Ext.refl w5).alloc (.cells #[.slice P5 d c5] 24)) hg6 (fun k hk => (by have := (World.ownsRow_lit (base := w5.heap.size) (e := 24) (size := 1) w5 #[.slice P5 d c5] 1 (Nat.le_refl _) (by decide) rfl).lt k hk; exact this.1)))
        have hP6 := PartsIn.cons (w := w5) (base := w.heap.size) (fun j l hl => (let ⟨u, e, hw⟩ := hrr.out j l hl; ⟨u, e, Sl.ext hw (g4.grown.trans hX5.out)⟩)) (own_xw (S := []) o5.out (by simp)) hX6.out (by rw [List.length_map, ← hid.out]; rw [hd.out]; exact ho6)
        rw [hmapn] at hP6
        exact ⟨ks, t' :: done, p, i + 1, by go_num, rfl, by omega, hKn, hp.out.symm, (by show _ = _; rw [List.length_cons, hid.out]), by omega, hP6, hX.trans (g4.grown.trans (hX5.out.trans hX6.out))⟩
    · have hge : (K.length : Int) ≤ i := by omega
      have hks : done = K := by
        have := congrArg List.length hK.out
        rw [List.length_append] at this
        have e2 := hid.out
        have : ks = [] := List.eq_nil_of_length_eq_zero (by omega)
        rw [hK.out, this]; rfl
      rw [hks] at hP
      clear hK hqe hks
      go_wp2_with (go_at_call 129; (with_reducible refine seq_gw (htk.out _) ?_); intro g3)
      go_returns
      exact ⟨_, rfl, hP.ext g3.grown, hX.trans g3.grown⟩
end Go.Proofs.YtljkneajdndgjabGreat
set_option linter.unusedVariables false
set_option linter.unusedSimpArgs false
namespace Go.Proofs.YtljkneajdndgjabGreat
open Go.RowKit
attribute [local go_sem] GW.cell GW.frozen In.eq_true In.le_true In.ne In.ne' In.ne_add In.ne_add' In.lt_add Upto.le_true Upto.le_add Upto.lt_add
end Go.Proofs.YtljkneajdndgjabGreat
set_option linter.unusedVariables false
set_option linter.unusedSimpArgs false
namespace Go.Proofs.YtljkneajdndgjabGreat
open Go.RowKit
attribute [local go_sem] GW.cell GW.frozen In.eq_true In.le_true In.ne In.ne' In.ne_add In.ne_add' In.lt_add Upto.le_true Upto.le_add Upto.lt_add
end Go.Proofs.YtljkneajdndgjabGreat
set_option linter.unusedVariables false
set_option linter.unusedSimpArgs false
namespace Go.Proofs.YtljkneajdndgjabGreat
open Go.RowKit
attribute [local go_sem] GW.cell GW.frozen In.eq_true In.le_true In.ne In.ne' In.ne_add In.ne_add' In.lt_add Upto.le_true Upto.le_add Upto.lt_add
/-- The answers of parts, the first one first. -/
def evLx {α : Type} (f : Vl → List α → Except Int α) : List Tr → Except Int (List α)
  | [] => .ok []
  | t :: r => match evT f t with
    | .error e => .error e
    | .ok x => match evLx f r with
      | .error e => .error e
      | .ok xs => .ok (x :: xs)
theorem evT_kids {α : Type} (f : Vl → List α → Except Int α) (t : Tr) : evT f t = match evLx f t.kids with
    | .error e => .error e
    | .ok xs => f t.top xs := by
  cases t with
  | leaf o => rfl
  | one o a =>
    simp only [Tr.kids, Tr.top, evT, evLx]
    cases evT f a <;> rfl
  | two o a b =>
    simp only [Tr.kids, Tr.top, evT, evLx]
    cases evT f a with
    | error e => rfl
    | ok x => cases evT f b <;> rfl
theorem evLx_snoc {α : Type} (f : Vl → List α → Except Int α) : ∀ (K : List Tr) (t : Tr) (xs : List α), evLx f K = .ok xs → evLx f (K ++ [t]) = match evT f t with
    | .error e => .error e
    | .ok x => .ok (xs ++ [x])
  | [], t, xs, h => by
    simp only [evLx] at h
    injection h with h
    subst h
    simp only [List.nil_append, evLx]
    try (cases evT f t <;> rfl)
  | k :: K, t, xs, h => by
    simp only [evLx] at h
    cases hk : evT f k with
    | error e => rw [hk] at h; cases h
    | ok x =>
      rw [hk] at h
      simp only at h
      cases hK : evLx f K with
      | error e => rw [hK] at h; cases h
      | ok ys =>
        rw [hK] at h
        injection h with h
        subst h
        simp only [List.cons_append, evLx, hk, evLx_snoc f K t ys hK]
        cases evT f t <;> rfl
theorem evL_err {α : Type} (f : Vl → List α → Except Int α) : ∀ (K : List Tr) (i : Nat) (t : Tr) (xs : List α) (e : Int), K[i]? = some t → evLx f (K.take i) = .ok xs → evT f t = .error e → evLx f K = .error e
  | [], i, t, xs, e, h, _, _ => by simp at h
  | k :: K, 0, t, xs, e, h, _, he => by
    obtain rfl : k = t := by simpa using h
    simp only [evLx, he]
  | k :: K, i + 1, t, xs, e, h, hx, he => by
    simp only [List.take_succ_cons, evLx] at hx
    cases hk : evT f k with
    | error e => rw [hk] at hx; cases hx
    | ok x =>
      rw [hk] at hx
      simp only at hx
      cases hK : evLx f (K.take i) with
      | error e => rw [hK] at hx; cases hx
      | ok ys => simp only [evLx, hk, evL_err f K i t ys e (by simpa using h) hK he]
theorem parts_at {w : World} {base : Nat} {v : Value} {L : List (List Vl)} (h : PartsIn w base v L) (i : Nat) (l : List Vl) (hl : L[i]? = some l) : ∃ (g cap : Nat) (A : Option Addr) (c : Nat), v = .slice (some ⟨g, 0, none⟩) L.length cap ∧ g < w.heap.size ∧ w.cell? ⟨g, i, none⟩ = some (.slice A l.length c) ∧ Rw w [] (.slice A l.length c) l := by
  obtain ⟨us, ho, hr⟩ := h
  obtain ⟨u, hu, hw⟩ := hr i l hl
  obtain ⟨A, c, rfl, -⟩ := rw_form hw
  have hi := (List.getElem?_eq_some_iff.1 hl).1
  rcases ho.2 with ⟨_, h0⟩ | ⟨g, cap, cur, rfl, _⟩
  · omega
  · have c1 := ho.cells (g := g) rfl i _ hu
    rw [add_plain, Nat.zero_add] at c1
    exact ⟨g, cap, A, c, rfl, block_lt_of_cell c1, c1, hw⟩
end Go.Proofs.YtljkneajdndgjabGreat
set_option linter.unusedVariables false
set_option linter.unusedSimpArgs false
namespace Go.Proofs.YtljkneajdndgjabGreat
def resX (x : Except Int Vl) : Vl × Int := match x with
  | .ok u => (u, 0)
  | .error z => ((0, 0, ⟨#[]⟩), z)
theorem evX_tree {r : List Vl} {t : Tr} (hg : t.good) (h64 : t.flat.length ≤ 64) (hm : mayR r = true) : evX t.flat r = resX (evT (evF r) t) := by
  unfold evX
  rw [if_pos (formE_of hg h64), if_pos hm, runX_tree hg]; rfl
theorem exN_e0 {v e : Int} : exN v e ≠ .error 0 := by
  unfold exN
  split
  · simp
  · next h => simp [h]
theorem ofNums_e0 (c a b : Int) : ofNums c a b ≠ .error 0 := by
  unfold ofNums
  split
  · exact exN_e0
  split
  · exact exN_e0
  split
  · exact exN_e0
  split
  · exact exN_e0
  split
  · exact exN_e0
  split <;> simp
theorem evF_e0 (r : List Vl) (o : Vl) (xs : List Vl) : evF r o xs ≠ .error 0 := by
  match xs with
  | [] =>
    show ofNone r o ≠ _
    unfold ofNone
    split
    · simp
    split
    · simp
    split <;> simp
  | [a] =>
    show ofOne o.1 a ≠ _
    unfold ofOne
    split
    · split <;> simp
    split
    · split
      · simp
      · exact exN_e0
    · simp
  | a :: b :: _ =>
    show ofTwo o.1 a b ≠ _
    unfold ofTwo
    split
    · split
      · split <;> simp
      · simp
    split
    · split <;> simp
    split
    · exact ofNums_e0 _ _ _
    · simp
theorem evT_ne0 (r : List Vl) (t : Tr) : ∀ e, evT (evF r) t = .error e → e ≠ 0 := by
  induction t with
  | leaf o => rintro e h rfl; exact evF_e0 r o [] h
  | one o a iha =>
    rintro e h rfl
    simp only [evT] at h
    cases ha : evT (evF r) a with
    | error z => rw [ha] at h; exact iha 0 (by rw [ha]; exact h) rfl
    | ok x => rw [ha] at h; exact evF_e0 _ _ _ h
  | two o a b iha ihb =>
    rintro e h rfl
    simp only [evT] at h
    cases ha : evT (evF r) a with
    | error z => rw [ha] at h; exact iha 0 (by rw [ha]; exact h) rfl
    | ok x =>
      rw [ha] at h
      simp only at h
      cases hb : evT (evF r) b with
      | error z => rw [hb] at h; exact ihb 0 (by rw [hb]; exact h) rfl
      | ok y => rw [hb] at h; exact evF_e0 _ _ _ h
end Go.Proofs.YtljkneajdndgjabGreat
