/-
  A helper of ours: no claim of its own. Layer 18 (eval): the document's Eval and Holds, in one contract each.
-/
import Derived.Test.YtljkneajdndgjabGreatEvaV
set_option linter.unusedVariables false
set_option linter.unusedSimpArgs false
namespace Go.Proofs.YtljkneajdndgjabGreat
open Go.RowKit
attribute [local go_sem] GW.cell GW.frozen In.eq_true In.le_true In.ne In.ne' In.ne_add In.ne_add' In.lt_add Upto.le_true Upto.le_add Upto.lt_add
set_option maxHeartbeats 4000000 in
set_option maxRecDepth 100000 in
theorem one_num (n : Int) (x : ByteArray) (ak an : Int) (as' : ByteArray) (rvv : Value) (w : World) : Calls Tryz.prog 161 #[val 1 n x, rvv, val ak an as'] w fun e w' => e = .returned (tupX (.ok (1, n, ⟨#[]⟩))) ∧ Ext w w' := by
  have h1 := hide (fun w => vrefNum_c n w)
  rw [tupX_ok]
  go_enter Tryz.func161, Tryz.ntmps161
  go_wp2_with (first | (go_at_call 188; (with_reducible refine seq_gw (h1.out _) ?_); intro g1))
  go_returns
  refine ⟨rfl, ?_⟩
  repeat (first | exact Ext.refl _ | refine Ext.alloc ?_ _ | refine Ext.drew ?_ | refine Ext.drewN ?_ _ | refine ext_gw ?_ _ | refine Ext.setCell ?_ (by first | (simp; done) | (simp [Upto.le_true, Upto.le_add]; done) | (simp; omega)) _)
set_option maxHeartbeats 4000000 in
set_option maxRecDepth 100000 in
theorem one_str (n : Int) (x : ByteArray) (ak an : Int) (as' : ByteArray) (rvv : Value) (w : World) : Calls Tryz.prog 161 #[val 2 n x, rvv, val ak an as'] w fun e w' => e = .returned (tupX (.ok (2, 0, x))) ∧ Ext w w' := by
  have h1 := hide (fun w => vrefText_c x w)
  rw [tupX_ok]
  go_enter Tryz.func161, Tryz.ntmps161
  go_wp2_with (first | (go_at_call 181; (with_reducible refine seq_gw (h1.out _) ?_); intro g1))
  go_returns
  refine ⟨rfl, ?_⟩
  repeat (first | exact Ext.refl _ | refine Ext.alloc ?_ _ | refine Ext.drew ?_ | refine Ext.drewN ?_ _ | refine ext_gw ?_ _ | refine Ext.setCell ?_ (by first | (simp; done) | (simp [Upto.le_true, Upto.le_add]; done) | (simp; omega)) _)
set_option maxHeartbeats 4000000 in
set_option maxRecDepth 100000 in
theorem one_get (r : List Vl) (n : Nat) (x : ByteArray) (ak an : Int) (as' : ByteArray) (rvv : Value) (w : World) (h : Rw w [] rvv r) : Calls Tryz.prog 161 #[val 3 n x, rvv, val ak an as'] w fun e w' => e = .returned (tupX (ofNone r (3, (n : Int), x))) ∧ Ext w w' := by
  obtain ⟨A, cap, rfl, hl, hm, hat⟩ := rw_form h
  unfold maxLen at hm
  clear h
  by_cases hi : n < r.length
  · obtain ⟨y, hy⟩ : ∃ y, r[n]? = some y := ⟨_, List.getElem?_eq_getElem hi⟩
    have e : ofNone r (3, (n : Int), x) = .ok y := by unfold ofNone; rw [if_neg (show ¬ (3 : Int) = 1 by decide), if_neg (show ¬ (3 : Int) = 2 by decide)]; simp only [Int.toNat_natCast]; rw [hy]
    rw [e]
    obtain ⟨b, o, rfl, -, hb, c0, c1, c2⟩ := hat n y hy
    have hiI : ¬ (r.length : Int) ≤ (n : Int) := by omega
    have hiI' : (n : Int) < r.length := by omega
    obtain ⟨yk, yn, ys⟩ := y
    rw [tupX_ok]
    simp only at c0 c1 c2
    haveI : In b w := ⟨hb⟩
    clear hat e hy hi
    go_enter Tryz.func161, Tryz.ntmps161
    go_wp2_with fail
    go_returns
    refine ⟨rfl, ?_⟩
    repeat (first | exact Ext.refl _ | refine Ext.alloc ?_ _ | refine Ext.drew ?_ | refine Ext.drewN ?_ _ | refine ext_gw ?_ _ | refine Ext.setCell ?_ (by first | (simp; done) | (simp [Upto.le_true, Upto.le_add]; done) | (simp; omega)) _)
  · have e : ofNone r (3, (n : Int), x) = .error 3 := by unfold ofNone; rw [if_neg (show ¬ (3 : Int) = 1 by decide), if_neg (show ¬ (3 : Int) = 2 by decide)]; simp only [Int.toNat_natCast]; rw [List.getElem?_eq_none (by omega)]
    rw [e, tupX_err]
    have hiI : (r.length : Int) ≤ (n : Int) := by omega
    clear hat e hi
    go_enter Tryz.func161, Tryz.ntmps161
    go_wp2_with fail
    go_returns
    refine ⟨rfl, ?_⟩
    repeat (first | exact Ext.refl _ | refine Ext.alloc ?_ _ | refine Ext.drew ?_ | refine Ext.drewN ?_ _ | refine ext_gw ?_ _ | refine Ext.setCell ?_ (by first | (simp; done) | (simp [Upto.le_true, Upto.le_add]; done) | (simp; omega)) _)
set_option maxHeartbeats 4000000 in
set_option maxRecDepth 100000 in
theorem one_len_t (on : Int) (ox : ByteArray) (rvv : Value) (t : ByteArray) (ht : t.size ≤ 64) (w : World) : Calls Tryz.prog 161 #[val 6 on ox, rvv, val 2 0 t] w fun e w' => e = .returned (tupX (.ok (1, (t.size : Int), ⟨#[]⟩))) ∧ Ext w w' := by
  have h1 := hide (fun w => vrefNum_c (t.size : Int) w)
  have htI : (t.size : Int) ≤ 64 := by omega
  rw [tupX_ok]
  go_enter Tryz.func161, Tryz.ntmps161
  go_wp2_with (first | (go_at_call 188; (with_reducible refine seq_gw (h1.out _) ?_); intro g1))
  go_returns
  refine ⟨rfl, ?_⟩
  repeat (first | exact Ext.refl _ | refine Ext.alloc ?_ _ | refine Ext.drew ?_ | refine Ext.drewN ?_ _ | refine ext_gw ?_ _ | refine Ext.setCell ?_ (by first | (simp; done) | (simp [Upto.le_true, Upto.le_add]; done) | (simp; omega)) _)
set_option maxHeartbeats 4000000 in
set_option maxRecDepth 100000 in
theorem one_len_n (on : Int) (ox : ByteArray) (rvv : Value) (n : Int) (w : World) : Calls Tryz.prog 161 #[val 6 on ox, rvv, val 1 n ⟨#[]⟩] w fun e w' => e = .returned (tupX (.error 12)) ∧ Ext w w' := by
  rw [tupX_err]
  go_enter Tryz.func161, Tryz.ntmps161
  go_wp2_with (fail)
  go_returns
  refine ⟨rfl, ?_⟩
  repeat (first | exact Ext.refl _ | refine Ext.alloc ?_ _ | refine Ext.drew ?_ | refine Ext.drewN ?_ _ | refine ext_gw ?_ _ | refine Ext.setCell ?_ (by first | (simp; done) | (simp [Upto.le_true, Upto.le_add]; done) | (simp; omega)) _)
set_option maxHeartbeats 4000000 in
set_option maxRecDepth 100000 in
theorem one_t5 (on : Int) (ox : ByteArray) (rvv : Value) (t : ByteArray) (w : World) : Calls Tryz.prog 161 #[val 5 on ox, rvv, val 2 0 t] w fun e w' => e = .returned (tupX (.error 12)) ∧ Ext w w' := by
  rw [tupX_err]
  go_enter Tryz.func161, Tryz.ntmps161
  go_wp2_with (fail)
  go_returns
  refine ⟨rfl, ?_⟩
  repeat (first | exact Ext.refl _ | refine Ext.alloc ?_ _ | refine Ext.drew ?_ | refine Ext.drewN ?_ _ | refine ext_gw ?_ _ | refine Ext.setCell ?_ (by first | (simp; done) | (simp [Upto.le_true, Upto.le_add]; done) | (simp; omega)) _)
set_option maxHeartbeats 4000000 in
set_option maxRecDepth 100000 in
theorem one_t4 (on : Int) (ox : ByteArray) (rvv : Value) (t : ByteArray) (w : World) : Calls Tryz.prog 161 #[val 4 on ox, rvv, val 2 0 t] w fun e w' => e = .returned (tupX (.error 12)) ∧ Ext w w' := by
  rw [tupX_err]
  go_enter Tryz.func161, Tryz.ntmps161
  go_wp2_with (fail)
  go_returns
  refine ⟨rfl, ?_⟩
  repeat (first | exact Ext.refl _ | refine Ext.alloc ?_ _ | refine Ext.drew ?_ | refine Ext.drewN ?_ _ | refine ext_gw ?_ _ | refine Ext.setCell ?_ (by first | (simp; done) | (simp [Upto.le_true, Upto.le_add]; done) | (simp; omega)) _)
set_option maxHeartbeats 4000000 in
set_option maxRecDepth 100000 in
theorem one_nt (on : Int) (ox : ByteArray) (rvv : Value) (n : Int) (z : Bool) (hz : (n == 0) = z) (w : World) : Calls Tryz.prog 161 #[val 5 on ox, rvv, val 1 n ⟨#[]⟩] w fun e w' => e = .returned (tupX (.ok (truV z))) ∧ Ext w w' := by
  have h1 := hide (fun w => truthV_c z w)
  rw [show tupX (.ok (truV z)) = .tuple #[val 1 (if z then 1 else 0) ⟨#[]⟩, .int .i64 0] from rfl]
  generalize (if z = true then (1 : Int) else 0) = y at *
  go_enter Tryz.func161, Tryz.ntmps161
  go_wp2_with (first | (go_at_call 180; (with_reducible refine seq_gw (h1.out _) ?_); intro g1))
  go_returns
  refine ⟨rfl, ?_⟩
  repeat (first | exact Ext.refl _ | refine Ext.alloc ?_ _ | refine Ext.drew ?_ | refine Ext.drewN ?_ _ | refine ext_gw ?_ _ | refine Ext.setCell ?_ (by first | (simp; done) | (simp [Upto.le_true, Upto.le_add]; done) | (simp; omega)) _)
set_option maxHeartbeats 4000000 in
set_option maxRecDepth 100000 in
theorem one_ng (on : Int) (ox : ByteArray) (rvv : Value) (n : Int) (hn : -9223372036854775808 ≤ n ∧ n ≤ 9223372036854775807) (w : World) : Calls Tryz.prog 161 #[val 4 on ox, rvv, val 1 n ⟨#[]⟩] w fun e w' => e = .returned (tupX (exN (okF (inR (-n)) (-n)) (ovE (inR (-n))))) ∧ Ext w w' := by
  have h2 := hide (fun w => nrefNeg_c n hn w)
  have h3 := hide (fun v e w => numberV_c v e w)
  clear hn
  generalize okF (inR (-n)) (-n) = V at *
  generalize ovE (inR (-n)) = E at *
  replace h3 := hide (fun w => h3.out V E w)
  obtain ⟨Z, hZ⟩ : ∃ Z, Z = resX (exN V E) := ⟨_, rfl⟩
  rw [show tupX (exN V E) = tupV Z by rw [hZ]; rfl] at h3 ⊢
  obtain ⟨⟨zk, zn, zs⟩, ze⟩ := Z
  clear hZ
  go_enter Tryz.func161, Tryz.ntmps161
  go_wp2_with (first | (go_at_call 189; (with_reducible refine seq_gw (h2.out _) ?_); intro g2) | (go_at_call 182; (with_reducible refine seq_gw' (h3.out _) ?_); intro g3))
  go_returns
  refine ⟨rfl, ?_⟩
  repeat (first | exact Ext.refl _ | refine Ext.alloc ?_ _ | refine Ext.drew ?_ | refine Ext.drewN ?_ _ | refine ext_gw ?_ _ | refine Ext.setCell ?_ (by first | (simp; done) | (simp [Upto.le_true, Upto.le_add]; done) | (simp; omega)) _)
theorem oneV0_c (r : List Vl) (o : Vl) (ho : okW o = true) (hc : tkI o.1 = 0) (ak an : Int) (as' : ByteArray) (rvv : Value) (w : World) (h : Rw w [] rvv r) : Calls Tryz.prog 161 #[val o.1 o.2.1 o.2.2, rvv, val ak an as'] w fun e w' => e = .returned (tupX (ofNone r o)) ∧ Ext w w' := by
  obtain ⟨c, n, x⟩ := o
  have h13 := tkI_iff0.1 hc
  simp only at h13
  have c3 : c = 1 ∨ c = 2 ∨ c = 3 := by omega
  rcases c3 with rfl | rfl | rfl
  · exact one_num n x ak an as' rvv w
  · exact one_str n x ak an as' rvv w
  · have hn8 : 0 ≤ n ∧ n < 8 := by rw [okW_3, Bool.and_eq_true, decide_eq_true_iff] at ho; exact ho.1
    obtain ⟨i, rfl⟩ := Int.eq_ofNat_of_zero_le hn8.1
    exact one_get r i x ak an as' rvv w h
theorem oneV1_c (o : Vl) (hc : tkI o.1 = 1) (a : Vl) (ha : fine a) (rvv : Value) (w : World) : Calls Tryz.prog 161 #[val o.1 o.2.1 o.2.2, rvv, val a.1 a.2.1 a.2.2] w fun e w' => e = .returned (tupX (ofOne o.1 a)) ∧ Ext w w' := by
  obtain ⟨c, n, x⟩ := o
  have h13 := tkI_iff1.1 hc
  simp only at h13
  have c3 : c = 4 ∨ c = 5 ∨ c = 6 := by omega
  rcases fine_cases ha with ⟨m, rfl, hm⟩ | ⟨t, rfl, ht⟩
  · rcases c3 with rfl | rfl | rfl
    · exact one_ng n x rvv m hm w
    · exact one_nt n x rvv m (decide (m = 0)) rfl w
    · exact one_len_n n x rvv m w
  · rcases c3 with rfl | rfl | rfl
    · exact one_t4 n x rvv t w
    · exact one_t5 n x rvv t w
    · exact one_len_t n x rvv t ht w
end Go.Proofs.YtljkneajdndgjabGreat
set_option linter.unusedVariables false
set_option linter.unusedSimpArgs false
namespace Go.Proofs.YtljkneajdndgjabGreat
open Go.RowKit
attribute [local go_sem] GW.cell GW.frozen In.eq_true In.le_true In.ne In.ne' In.ne_add In.ne_add' In.lt_add Upto.le_true Upto.le_add Upto.lt_add
theorem src_wordB {P : Program} {tx e' : TypeId} (hk : P.underlying tx = some (.slice e')) (w : World) (x : Vl) (E : TypeId) (B : Nat) (hB : B = w.heap.size) : Src P 3 tx (.slice (some ⟨B, 0, none⟩) 1 1) 1 (vc x) (w.alloc (.cells #[.int .i64 x.1, .int .i64 x.2.1, .string x.2.2] E)) := by
  subst hB; exact src_word hk w x E
abbrev OwnL (w : World) (base : Nat) (v : Value) (l : List Vl) : Prop := w.ownsRow base 53 3 v l.length (rc l)
theorem tValL : ElemT Tryz.prog 32 53 (.agg #[.int .i64 0, .int .i64 0, .string ⟨#[]⟩]) 3 32 := ElemT.mk' Tryz.underlying32 (by kernel_rfl) rfl (by omega)
theorem own_appL {w : World} {B : Nat} {v : Value} {l m : List Vl} (h : w.ownsRow B 53 3 v (l.length + m.length) (rc l ++ rc m)) : OwnL w B v (l ++ m) := by
  unfold OwnL; rw [List.length_append, rc_append]; exact h
/-- The contract of the document's answer. -/
abbrev OfC (r : List Vl) (t : Tr) : Prop := ∀ (v rvv : Value) (w : World), Rw w [] v t.flat → Rw w [] rvv r → Calls Tryz.prog 131 #[v, rvv] w fun e w' => e = .returned (tupX (evT (evF r) t)) ∧ Ext w w'
set_option maxHeartbeats 8000000 in
set_option maxRecDepth 100000 in
theorem refOf_core (r : List Vl) (hr : ∀ v ∈ r, fine v) (t : Tr) (tg : t.good) (ti : t.inw) (h64 : t.flat.length ≤ 64) (ih : ∀ k ∈ t.kids, OfC r k) : OfC r t := by
  intro v rvv w h hrr
  obtain ⟨R, hR⟩ : ∃ R, R = evT (evF r) t := ⟨_, rfl⟩
  rw [← hR]
  rw [evT_kids] at hR
  have hpt := hide (fun w' (hX : Ext w w') => refParts_c t tg h64 v w' (Sl.ext h hX))
  have hkl := t.kids_len tg
  have hok := t.top_ok tg
  have hk2 : t.kids.length ≤ 2 := by cases t <;> simp [Tr.kids]
  have hfl : t.flat = flats t.kids ++ [t.top] := by rw [Tr.flat_kids]; rfl
  have hlen : t.flat.length = (flats t.kids).length + 1 := by rw [hfl]; simp
  have hfin := hide (fun (k : Tr) (hk : k ∈ t.kids) (x : Vl) (hx : evT (evF r) k = .ok x) => evT_fine hr k (t.kids_good tg k hk) (by
    cases t with
    | leaf o => simp [Tr.kids] at hk
    | one o a => simp only [Tr.kids, List.mem_cons, List.not_mem_nil, or_false] at hk; subst hk; exact ti.2
    | two o a b =>
      simp only [Tr.kids, List.mem_cons, List.not_mem_nil, or_false] at hk
      rcases hk with rfl | rfl
      · exact ti.2.1
      · exact ti.2.2) x hx)
  obtain ⟨A, cap, rfl, hl, hm, hat⟩ := rw_form h
  obtain ⟨b, off, rfl, -, hb, c0, c1, c2⟩ := hat (flats t.kids).length t.top (by rw [hfl]; simp)
  replace ih := hide (fun k hk v w' (hX : Ext w w') hv => ih k hk v rvv w' hv (Sl.ext hrr hX))
  have hone0 := hide (fun o ho hc w' (hX : Ext w w') => oneV0_c r o ho hc 0 0 ⟨#[]⟩ rvv w' (Sl.ext hrr hX))
  obtain ⟨B, rcap, rfl, -, -, -⟩ := rw_form hrr
  rw [hlen] at hl h64 hpt ⊢
  clear hat h hrr hfl hlen hm tg ti
  generalize t.kids = K at *
  generalize t.top = o at *
  generalize (flats K).length = m at *
  replace hR := hide hR
  replace hkl := hide hkl
  replace hok := hide hok
  obtain ⟨oc, on, os⟩ := o
  simp only at c0 c1 c2
  have hm1 : (m : Int) < m + 1 := by omega
  have hRes := hide (Ob.new w 53 [.int .i64 0, .int .i64 0, .string ⟨#[]⟩])
  go_enter Tryz.func131, Tryz.ntmps131
  go_wp2_with (first | (go_at_call 159; refine (hpt.out _ ((Ext.refl w).alloc _)).mono ?_; rintro ee w1 ⟨v1, rfl, hP, hx1⟩; obtain ⟨P, pc, rfl⟩ : ∃ P pc, v1 = .slice P (K.map Tr.flat).length pc := (let ⟨us, ho, _⟩ := hP; own_form ho); have hlit := hide (World.ownsRow_lit (base := w1.heap.size) (e := 53) (size := 3) w1 #[] 0 (Nat.le_refl _) (by decide) rfl)))
  clear hpt
  replace hP := hide hP
  replace hRes := hide (hRes.out.ext hx1)
  have hz1 := hRes.out.lt
  replace hx1 := hide (((Ext.refl w).alloc (.cells #[.int .i64 0, .int .i64 0, .string ⟨#[]⟩] 53)).trans hx1)
  go_loopg [7, 8] K.length (fun gh kv iv wr => ∃ (i : Nat) (acc : List Vl), iv = .int .i64 i ∧ i + gh = K.length ∧ Hid (i = acc.length) ∧ OwnL wr w1.heap.size kv acc ∧ Hid (evLx (evF r) (K.take i) = .ok acc) ∧ Hid (∀ x ∈ acc, fine x) ∧ Ext w1 wr)
  case atStart => exact ⟨0, [], rfl, by omega, rfl, (by have h := hlit.out; exact h), rfl, (by intro x hx; cases hx), (Ext.refl w1).alloc _⟩
  case round =>
    obtain ⟨i, acc, rfl, hi, hia, ho, hev, hfn, hX⟩ := hrel
    clear hlit
    have hzX := hX.size
    replace hRes := hide (hRes.out.ext hX)
    have hbr0 := hRes.out.lt
    haveI : In w.heap.size wr := ⟨hbr0⟩
    by_cases hlt : i < K.length
    · obtain ⟨k, hk⟩ : ∃ k, K[i]? = some k := ⟨_, List.getElem?_eq_getElem hlt⟩
      obtain ⟨gp, pcap, A1, c3, e, hgp, hcell, hrw⟩ := parts_at (hP.out.ext hX) i k.flat (by rw [List.getElem?_map, hk]; rfl)
      obtain ⟨rfl, -, rfl⟩ := Value.slice.inj e
      haveI : In gp wr := ⟨hgp⟩
      have hcall := hide (ih.out k (List.mem_of_getElem? hk) _ wr (hx1.out.trans hX) hrw)
      have hsn := evLx_snoc (evF r) (K.take i) k acc hev.out
      have her := fun e => evL_err (evF r) K i k acc e hk hev.out
      have hez := evT_ne0 r k
      have hff := hfin.out k (List.mem_of_getElem? hk)
      have htk : K.take (i + 1) = K.take i ++ [k] := by rw [List.take_add_one, hk, Option.toList_some]
      rw [← htk] at hsn
      have hltI : (i : Int) < K.length := by omega
      have hal : acc.length ≤ 2 := by have := hia.out; omega
      clear e hk htk
      generalize evT (evF r) k = Z at *
      cases Z with
      | error e =>
        have hFo : Hid (R = .error e) := by show _ = _; rw [hR.out, her e rfl]
        have hezI : (e != 0) = true := by rw [bne_iff_ne]; exact hez e rfl
        clear hsn her hez hff
        replace hcall := hide (show Calls Tryz.prog 131 _ wr fun ee w'' => ee = .returned (.tuple #[val 0 0 ⟨#[]⟩, .int .i64 e]) ∧ Ext wr w'' from hcall.out)
        have r0 := hRes.out.cell 0 rfl
        have r1 := hRes.out.cell 1 rfl
        have r2 := hRes.out.cell 2 rfl
        have rf := fun i => hRes.out.free i
        go_wp2_with (go_at_call 131; (with_reducible refine seq_gw hcall.out ?_); intro g)
        have k := ((((hRes.out.ext g.grown).set 0 (.int .i64 0)).set 1 (.int .i64 0)).set 2 (.string ⟨#[]⟩)).alloc (.cells #[.int .i64 0, .int .i64 0, .string ⟨#[]⟩] 53)
        have k0 := k.cell 0 rfl; have k1 := k.cell 1 rfl; have k2 := k.cell 2 rfl
        refine bodyPost_ret (by simp [results, Tryz.results131, go_sem, k0, k1, k2]; try rfl) rfl ?_
        exact ⟨by rw [hFo.out]; rfl, (((((hx1.out.trans hX).trans g.grown).setCell (p := ⟨w.heap.size, 0, none⟩) (Nat.le_refl _) _).setCell (p := ⟨w.heap.size, 1, none⟩) (Nat.le_refl _) _).setCell (p := ⟨w.heap.size, 2, none⟩) (Nat.le_refl _) _).alloc _⟩
      | ok x =>
        have hsn2 := hide hsn
        have hfx := hide (hff x rfl)
        obtain ⟨xk, xn, xs⟩ := x
        clear hsn her hez hff
        replace hcall := hide (show Calls Tryz.prog 131 _ wr fun ee w'' => ee = .returned (.tuple #[val xk xn xs, .int .i64 0]) ∧ Ext wr w'' from hcall.out)
        go_wp2_with (first | (go_at_call 131; (with_reducible refine seq_gw hcall.out ?_); intro g; have hzg := GW.size g) | (at_builtin; (refine wpl_app tValL rfl (.tmp 35) (.tmp 37) rfl rfl (own_ext ho ((g.grown.alloc _).alloc _)) rfl (src_wordB Tryz.underlying32 (g.val.alloc _) (xk, xn, xs) _ _ (by simp)) (by unfold maxLen; omega) (by omega) (by simp only [World.size_alloc]; omega) ?_; intro v2 w2 ho2 hg2 _)))
        go_roundg (K.length - (i + 1))
        case measure => omega
        case rel => exact ⟨i + 1, acc ++ [(xk, xn, xs)], by go_num, by omega, (by show _ = _; rw [List.length_append, List.length_singleton, hia.out]), (by have := own_appL (l := acc) (m := [(xk, xn, xs)]) (by simpa [rc] using ho2); exact this), hsn2.out, (by intro y hy; rcases List.mem_append.1 hy with hy | hy; exact hfn.out y hy; obtain rfl : y = (xk, xn, xs) := (by simpa using hy); exact hfx.out), ext_grown (((hX.trans g.grown).alloc _).alloc _) hg2 (fun k hk => (ho.lt k hk).1)⟩
    · have hik : i = K.length := by omega
      have hge : (K.length : Int) ≤ i := by omega
      rw [hik, List.take_length] at hev
      have hR2 := hR.out
      rw [hev.out] at hR2
      replace hR2 : Hid (R = evF r (oc, on, os) acc) := hR2
      have k0 := cell_later (hx1.out.trans hX) c0
      have k1 := cell_later (hx1.out.trans hX) c1
      have k2 := cell_later (hx1.out.trans hX) c2
      have hbr := block_lt_of_cell k0
      haveI : In b wr := ⟨hbr⟩
      have hXw := hide (hx1.out.trans hX)
      have hkl2 : tkI oc = (acc.length : Int) := by have h1 : tkI oc = (K.length : Int) := hkl.out; have h2 := hia.out; rw [h1, ← hik, h2]
      have hone := hide (fun w' (hX' : Ext wr w') (h0 : acc.length = 0) => hone0.out (oc, on, os) hok.out (by rw [hkl2, h0]; rfl) w' (hXw.out.trans hX'))
      have hkw : Hid (Rw wr [] u7 acc) := Sl.own (S := []) ho (by simp)
      obtain ⟨Q, qc, rfl⟩ := own_form ho
      have r0 := hRes.out.cell 0 rfl
      have r1 := hRes.out.cell 1 rfl
      have r2 := hRes.out.cell 2 rfl
      have rf := fun i => hRes.out.free i
      replace hkl2 := hide hkl2
      have hia' := hia.out
      have hile : i ≤ 2 := by omega
      clear hR hev hkl hP ih hlt hik c0 c1 c2 hi hfin hone0 ho hX hzX hk2 hia hok
      rcases acc with _ | ⟨x, _ | ⟨y, _ | ⟨z, acc⟩⟩⟩
      ·
        have hi0 : i = 0 := hia'
        subst hi0
        have h1 := hide (fun w' (hX' : Ext wr w') => hone.out w' hX' rfl)
        obtain ⟨Z, hZ⟩ : ∃ Z, Z = resX (ofNone r (oc, on, os)) := ⟨_, rfl⟩
        have hT : Hid (tupX R = tupV Z) := by show _ = _; rw [hR2.out, hZ]; rfl
        replace h1 := hide (show ∀ w', Ext wr w' → Calls Tryz.prog 161 #[val oc on os, .slice B r.length rcap, val 0 0 ⟨#[]⟩] w' fun e w'' => e = .returned (tupV Z) ∧ Ext w' w'' by rw [hZ]; exact h1.out)
        obtain ⟨⟨zk, zn, zs⟩, ze⟩ := Z
        clear hR2 hkl2 hfn hone hkw hia' hZ
        go_wp2_with (first | (go_at_call 161; (with_reducible refine seq_gw (h1.out _ (((Ext.refl wr).alloc _).alloc _)) ?_); intro g))
        have k := ((((hRes.out.ext (((Ext.refl wr).alloc _).alloc _)).ext g.grown).set 0 (.int .i64 zk)).set 1 (.int .i64 zn)).set 2 (.string zs)
        have k0 := k.cell 0 rfl; have k1 := k.cell 1 rfl; have k2 := k.cell 2 rfl
        refine bodyPost_ret (by simp [results, Tryz.results131, go_sem, k0, k1, k2]; try rfl) rfl ?_
        exact ⟨by rw [hT.out], ((((((hXw.out.alloc _).alloc _).trans g.grown).setCell (p := ⟨w.heap.size, 0, none⟩) (Nat.le_refl _) _).setCell (p := ⟨w.heap.size, 1, none⟩) (Nat.le_refl _) _).setCell (p := ⟨w.heap.size, 2, none⟩) (Nat.le_refl _) _)⟩
      ·
        have hi0 : i = 1 := hia'
        subst hi0
        have h1 := hide (fun w' => oneV1_c (oc, on, os) hkl2.out x (hfn.out x (by simp)) (.slice B r.length rcap) w')
        obtain ⟨A', c', ekw, -, -, hka⟩ := rw_form hkw.out
        obtain ⟨rfl, -, rfl⟩ := Value.slice.inj ekw
        obtain ⟨bk, ok, rfl, -, hbk, kc0, kc1, kc2⟩ := hka 0 x rfl
        haveI : In bk wr := ⟨hbk⟩
        simp only [Nat.zero_mul, Nat.add_zero] at kc0 kc1 kc2
        obtain ⟨Z, hZ⟩ : ∃ Z, Z = resX (ofOne oc x) := ⟨_, rfl⟩
        have hT : Hid (tupX R = tupV Z) := by show _ = _; rw [hR2.out, hZ]; rfl
        replace h1 := hide (show ∀ w', Calls Tryz.prog 161 #[val oc on os, .slice B r.length rcap, val x.1 x.2.1 x.2.2] w' fun e w'' => e = .returned (tupV Z) ∧ Ext w' w'' by rw [hZ]; exact h1.out)
        obtain ⟨⟨zk, zn, zs⟩, ze⟩ := Z
        obtain ⟨xk, xn, xs⟩ := x
        clear hR2 hkl2 hfn hone hkw hia' hZ ekw hka
        go_wp2_with (first | (go_at_call 161; (with_reducible refine seq_gw (h1.out _) ?_); intro g))
        have k := ((((hRes.out.ext (((Ext.refl wr).alloc _).alloc _)).ext g.grown).set 0 (.int .i64 zk)).set 1 (.int .i64 zn)).set 2 (.string zs)
        have k0 := k.cell 0 rfl; have k1 := k.cell 1 rfl; have k2 := k.cell 2 rfl
        refine bodyPost_ret (by simp [results, Tryz.results131, go_sem, k0, k1, k2]; try rfl) rfl ?_
        exact ⟨by rw [hT.out], ((((((hXw.out.alloc _).alloc _).trans g.grown).setCell (p := ⟨w.heap.size, 0, none⟩) (Nat.le_refl _) _).setCell (p := ⟨w.heap.size, 1, none⟩) (Nat.le_refl _) _).setCell (p := ⟨w.heap.size, 2, none⟩) (Nat.le_refl _) _)⟩
      ·
        have hi0 : i = 2 := hia'
        subst hi0
        have h1 := hide (fun w' => twoV_c oc hkl2.out x y (hfn.out x (by simp)) (hfn.out y (by simp)) w')
        obtain ⟨A', c', ekw, -, -, hka⟩ := rw_form hkw.out
        obtain ⟨rfl, -, rfl⟩ := Value.slice.inj ekw
        obtain ⟨bk, ok, rfl, -, hbk, kc0, kc1, kc2⟩ := hka 0 x rfl
        obtain ⟨bk', ok', e', -, -, kd0, kd1, kd2⟩ := hka 1 y rfl
        obtain ⟨rfl, rfl⟩ : bk = bk' ∧ ok = ok' := by simpa using e'
        haveI : In bk wr := ⟨hbk⟩
        simp only [Nat.zero_mul, Nat.add_zero, Nat.one_mul] at kc0 kc1 kc2 kd0 kd1 kd2
        obtain ⟨Z, hZ⟩ : ∃ Z, Z = resX (ofTwo oc x y) := ⟨_, rfl⟩
        have hT : Hid (tupX R = tupV Z) := by show _ = _; rw [hR2.out, hZ]; rfl
        replace h1 := hide (show ∀ w', Calls Tryz.prog 160 #[.int .i64 oc, val x.1 x.2.1 x.2.2, val y.1 y.2.1 y.2.2] w' fun e w'' => e = .returned (tupV Z) ∧ Ext w' w'' by rw [hZ]; exact h1.out)
        obtain ⟨⟨zk, zn, zs⟩, ze⟩ := Z
        obtain ⟨xk, xn, xs⟩ := x
        obtain ⟨yk, yn, ys⟩ := y
        clear hR2 hkl2 hfn hone hkw hia' hZ ekw hka e'
        go_wp2_with fail
        refine wp_region_gw_tail 11 (by kernel_rfl) (by kernel_rfl) ?_
        simp only [List.take_succ_cons, List.take_zero, List.drop_succ_cons, List.drop_zero]
        repeat (go_big_quiet_step (first | (go_at_call 160; with_reducible exact quiet_gw (h1.out _))))
        refine wpQuiet_nil ?_
        intro g
        go_wp2_with fail
        have k := ((((hRes.out.ext ((Ext.refl wr).alloc _)).ext g.grown).set 0 (.int .i64 zk)).set 1 (.int .i64 zn)).set 2 (.string zs)
        have k0 := k.cell 0 rfl; have k1 := k.cell 1 rfl; have k2 := k.cell 2 rfl
        refine bodyPost_ret (by simp [results, Tryz.results131, go_sem, k0, k1, k2]; try rfl) rfl ?_
        exact ⟨by rw [hT.out], (((((hXw.out.alloc _).trans g.grown).setCell (p := ⟨w.heap.size, 0, none⟩) (Nat.le_refl _) _).setCell (p := ⟨w.heap.size, 1, none⟩) (Nat.le_refl _) _).setCell (p := ⟨w.heap.size, 2, none⟩) (Nat.le_refl _) _)⟩
      · simp only [List.length_cons] at hia'; omega
theorem refOf_c (r : List Vl) (hr : ∀ v ∈ r, fine v) : ∀ (t : Tr), t.good → t.inw → t.flat.length ≤ 64 → OfC r t
  | .leaf o, g, i, h => refOf_core r hr (.leaf o) g i h (by simp [Tr.kids])
  | .one o a, g, i, h => refOf_core r hr (.one o a) g i h (by
    have ha := refOf_c r hr a g.2.2 i.2 (by simp [Tr.flat] at h; omega)
    intro k hk
    simp only [Tr.kids, List.mem_cons, List.not_mem_nil, or_false] at hk
    subst hk; exact ha)
  | .two o a b, g, i, h => refOf_core r hr (.two o a b) g i h (by
    have ha := refOf_c r hr a g.2.2.1 i.2.1 (by simp [Tr.flat] at h; omega)
    have hb := refOf_c r hr b g.2.2.2 i.2.2 (by simp [Tr.flat] at h; omega)
    intro k hk
    simp only [Tr.kids, List.mem_cons, List.not_mem_nil, or_false] at hk
    rcases hk with rfl | rfl
    · exact ha
    · exact hb)
end Go.Proofs.YtljkneajdndgjabGreat
set_option linter.unusedVariables false
set_option linter.unusedSimpArgs false
namespace Go.Proofs.YtljkneajdndgjabGreat
open Go.RowKit
attribute [local go_sem] GW.cell GW.frozen In.eq_true In.le_true In.ne In.ne' In.ne_add In.ne_add' In.lt_add Upto.le_true Upto.le_add Upto.lt_add
set_option maxHeartbeats 4000000 in
set_option maxRecDepth 100000 in
theorem refEval_c (l r : List Vl) (hri : ∀ v ∈ r, inW v) (hi : ∀ o ∈ l, inW o) (v rvv : Value) (w : World) (h : Rw w [] v l) (hrr : Rw w [] rvv r) :
    Calls Tryz.prog 87 #[v, rvv] w fun e w' => e = .returned (tupV (evX l r)) ∧ Ext w w' := by
  have hform := hide (fun w' (hX : Ext w w') => refForm_c l v w' (Sl.ext h hX))
  have hmay := hide (fun w' (hX : Ext w w') => refRowMay_c r rvv w' (Sl.ext hrr hX))
  by_cases hz : formE l = 0
  · cases hm : mayR r with
    | false =>
      have e : evX l r = ((0, 0, ⟨#[]⟩), 2) := by unfold evX; rw [if_pos hz, hm]; rfl
      rw [e]
      rw [hz] at hform
      rw [hm] at hmay
      clear h hrr hz hm e hi hri
      go_enter Tryz.func87, Tryz.ntmps87
      go_wp2_with (first | (go_at_call 40; (with_reducible refine seq_gw (hform.out _ ((Ext.refl w).alloc _)) ?_); intro g) | (go_at_call 47; (with_reducible refine seq_gw' (hmay.out _ (((Ext.refl w).alloc _).trans g.grown)) ?_); intro g2))
      go_returns
      refine ⟨rfl, ?_⟩
      repeat (first | exact Ext.refl _ | refine Ext.alloc ?_ _ | refine ext_gw ?_ _ | refine Ext.setCell ?_ (by first | (simp; done) | (simp [Upto.le_true, Upto.le_add]; done) | (simp; omega)) _)
    | true =>
      obtain ⟨t, hg, rfl, h64⟩ := formE_tree hz
      have hr : ∀ v ∈ r, fine v := fun v hv => ⟨(mayR_iff.1 hm).2 v hv, hri v hv⟩
      have hof := hide (fun w' (hX : Ext w w') => refOf_c r hr t hg (Tr.inw_of t hi) h64 v rvv w' (Sl.ext h hX) (Sl.ext hrr hX))
      rw [evX_tree hg h64 hm]
      rw [hz] at hform
      rw [hm] at hmay
      obtain ⟨Z, hZ⟩ : ∃ Z, Z = resX (evT (evF r) t) := ⟨_, rfl⟩
      replace hof := hide (show ∀ w', Ext w w' → Calls Tryz.prog 131 #[v, rvv] w' fun e w'' => e = .returned (tupV Z) ∧ Ext w' w'' by rw [hZ]; exact hof.out)
      rw [← hZ]
      obtain ⟨⟨zk, zn, zs⟩, ze⟩ := Z
      clear h hrr hz hm hi hri hr hZ
      go_enter Tryz.func87, Tryz.ntmps87
      go_wp2_with (first | (go_at_call 40; (with_reducible refine seq_gw (hform.out _ ((Ext.refl w).alloc _)) ?_); intro g) | (go_at_call 47; (with_reducible refine seq_gw' (hmay.out _ (((Ext.refl w).alloc _).trans g.grown)) ?_); intro g2) | (go_at_call 131; (with_reducible refine seq_gw' (hof.out _ (((Ext.refl w).alloc _).trans g2.grown)) ?_); intro g3))
      go_returns
      refine ⟨rfl, ?_⟩
      repeat (first | exact Ext.refl _ | refine Ext.alloc ?_ _ | refine ext_gw ?_ _ | refine Ext.setCell ?_ (by first | (simp; done) | (simp [Upto.le_true, Upto.le_add]; done) | (simp; omega)) _)
  · have e : evX l r = ((0, 0, ⟨#[]⟩), formE l) := by unfold evX; rw [if_neg hz]
    rw [e]
    have hzI : (formE l != 0) = true := by simpa using hz
    generalize formE l = E at *
    clear h hrr hz e hmay hi hri
    go_enter Tryz.func87, Tryz.ntmps87
    go_wp2_with (first | (go_at_call 40; (with_reducible refine seq_gw (hform.out _ ((Ext.refl w).alloc _)) ?_); intro g))
    go_returns
    refine ⟨rfl, ?_⟩
    repeat (first | exact Ext.refl _ | refine Ext.alloc ?_ _ | refine ext_gw ?_ _ | refine Ext.setCell ?_ (by first | (simp; done) | (simp [Upto.le_true, Upto.le_add]; done) | (simp; omega)) _)
set_option maxHeartbeats 4000000 in
set_option maxRecDepth 100000 in
theorem refHolds_c (l r : List Vl) (hri : ∀ v ∈ r, inW v) (hi : ∀ o ∈ l, inW o) (v rvv : Value) (w : World) (h : Rw w [] v l) (hrr : Rw w [] rvv r) :
    Calls Tryz.prog 43 #[v, rvv] w fun e w' => e = .returned (.tuple #[.bool (hoX l r).1, .int .i64 (hoX l r).2]) ∧ Ext w w' := by
  have hc := hide (fun w' (hX : Ext w w') => refEval_c l r hri hi v rvv w' (Sl.ext h hX) (Sl.ext hrr hX))
  clear h hrr hi hri
  unfold hoX
  obtain ⟨⟨⟨k, n, s⟩, z⟩, he⟩ : ∃ x, x = evX l r := ⟨_, rfl⟩
  rw [← he] at hc ⊢
  clear he
  replace hc := hide (show ∀ w', Ext w w' → Calls Tryz.prog 87 #[v, rvv] w' fun e w'' => e = .returned (.tuple #[val k n s, .int .i64 z]) ∧ Ext w' w'' from hc.out)
  dsimp only
  by_cases hz : z = 0
  · subst hz
    by_cases hk : k = 1
    · subst hk
      go_enter Tryz.func43, Tryz.ntmps43
      go_wp2_with (go_at_call 87; (with_reducible refine seq_gw (hc.out _ (by repeat (first | exact Ext.refl _ | refine Ext.alloc ?_ _))) ?_); intro g)
      go_returns
      refine ⟨?_, ?_⟩
      · simp
      · repeat (first | exact Ext.refl _ | refine Ext.drewN ?_ _ | refine Ext.alloc ?_ _ | refine Ext.trans ?_ g.grown | refine Ext.setCell ?_ (by simp) _)
    · have hk' : (k != 1) = true := by simpa using hk
      go_enter Tryz.func43, Tryz.ntmps43
      go_wp2_with (go_at_call 87; (with_reducible refine seq_gw (hc.out _ (by repeat (first | exact Ext.refl _ | refine Ext.alloc ?_ _))) ?_); intro g)
      go_returns
      refine ⟨?_, ?_⟩
      · simp [hk]
      · repeat (first | exact Ext.refl _ | refine Ext.drewN ?_ _ | refine Ext.alloc ?_ _ | refine Ext.trans ?_ g.grown | refine Ext.setCell ?_ (by simp) _)
  · have hz' : (z != 0) = true := by simpa using hz
    go_enter Tryz.func43, Tryz.ntmps43
    go_wp2_with (go_at_call 87; (with_reducible refine seq_gw (hc.out _ (by repeat (first | exact Ext.refl _ | refine Ext.alloc ?_ _))) ?_); intro g)
    go_returns
    refine ⟨?_, ?_⟩
    · simp [hz]
    · repeat (first | exact Ext.refl _ | refine Ext.drewN ?_ _ | refine Ext.alloc ?_ _ | refine Ext.trans ?_ g.grown | refine Ext.setCell ?_ (by simp) _)
end Go.Proofs.YtljkneajdndgjabGreat
