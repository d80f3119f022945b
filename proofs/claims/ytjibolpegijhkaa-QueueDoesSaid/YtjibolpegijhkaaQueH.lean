/-
  A helper of ours: no claim of its own. Layer 15 (queue): While.
-/
import Derived.Test.YtjibolpegijhkaaQueG
set_option linter.unusedVariables false
set_option linter.unusedSimpArgs false
namespace Go.Proofs.Ytjibolpegijhkaa
open Go.RowKit
attribute [local go_sem] GW.cell GW.frozen In.eq_true In.le_true In.ne In.ne' In.ne_add In.ne_add' In.lt_add Upto.le_true Upto.le_add Upto.lt_add
theorem own_off {w w' : World} {base e size n : Nat} {v : Value} {xs : List Value} {S : List Nat} (h : w.ownsRow base e size v n xs) (k : Fr S w w') (hS : ∀ x, v.ownBlock = some x → x ∉ S) : w'.ownsRow base e size v n xs :=
  ⟨h.1, h.2.imp id fun ⟨g, cap, cur, e', hb, hg, hr⟩ => ⟨g, cap, cur, e', hb, (k.block g (lt_of_block hg) (hS g (by rw [e']; rfl))).trans hg, hr⟩⟩
theorem Ft.grownNew {B : Nat} {Ts : List TypeId} {w w' w'' : World} {row : Option Nat} (h : Ft B Ts w w') (hg : w'.grownBy w'' row) (hr : ∀ k, row = some k → w.heap.size ≤ k) : Ft B Ts w w'' :=
  ⟨hg.os.trans h.os, hg.tape.trans h.tape, hg.output.trans h.output, Nat.le_trans h.size hg.size, fun k hk hc => (hg.block k (Nat.lt_of_lt_of_le hk h.size) (fun e => by have := hr k e.symm; omega)).trans (h.block k hk hc)⟩
set_option maxHeartbeats 2000000 in
theorem below_c (x : Jp) (bb : Nat) (b : Int) (w : World) (h : Ob w bb 3 [.int .i64 b]) : Calls Try.prog 16 #[jm x, .pointer (some ⟨bb, 0, none⟩)] w fun e w' => e = .returned (.bool (decide (x.1 < b))) ∧ Ext w w' := by
  obtain ⟨xa, xn⟩ := x
  have c0 := h.cell 0 rfl
  have hlt := h.lt
  haveI : In bb w := ⟨hlt⟩
  clear h
  go_enter Try.func16, Try.ntmps16
  go_wp2_with fail
  go_returns
  exact ⟨rfl, (Ext.refl w).alloc _⟩
set_option maxHeartbeats 8000000 in
set_option maxRecDepth 100000 in
theorem while_c (B q : Nat) (P : List It) (hP : P.length ≤ 1000000) (n : Int) (bb : Nat) (b : Int) (w : World) (hB : B ≤ w.heap.size) (h : QS w B q P n) (hbb : Ob w bb 3 [.int .i64 b]) : Calls Try.prog 15 #[.pointer (some ⟨q, 0, none⟩), .func (.func 16) #[] #[.pointer (some ⟨bb, 0, none⟩)]] w fun e w' =>
    ∃ v, e = .returned v ∧ OwnJ w' w.heap.size v (outs (whN b (ths P)) (ths P)) ∧ (∃ P', ths P' = pkL (whN b (ths P)) (ths P) ∧ QS w' B q P' n) ∧ Ft B Tq w w' := by
  have hK0 := hide (fun w' (hX : Ext w w') => peek_c B q P n w' (h.ext hX))
  have hq := h.lt
  obtain ⟨L, hL⟩ : ∃ L, L = ths P := ⟨_, rfl⟩
  have hLl : L.length = P.length := by rw [hL]; simp [ths]
  have h00 := hide (fun g : GW w => show ∃ P', ths P' = pkL 0 L ∧ P'.length = L.length - 0 ∧ QS (g.val.alloc (.cells #[.int .i64 (hdL (ths P)).1, .int .i64 (hdL (ths P)).2] 27)) B q P' n ∧ hdL (ths P) = hdL (pkL 0 L) from ⟨P, by rw [hL]; rfl, by omega, h.ext (g.grown.alloc _), by rw [hL]; rfl⟩)
  have hLh := hide hL
  have hbbh := hide hbb
  rw [← hL]
  have hPL : P.length = L.length := hLl.symm
  rw [hPL] at hP hK0
  have hwn := hide (fun n' => whN_is (b := b) (L := L) (n := n'))
  generalize whN b L = W at *
  clear h hL hLl hbb hPL
  obtain ⟨⟨ra, rn⟩, hr⟩ : ∃ r, r = hdL (ths P) := ⟨_, rfl⟩
  rw [← hr] at hK0 h00
  clear hr
  go_enter Try.func15, Try.ntmps15
  go_wp2_with (go_at_call 12; (with_reducible refine seq_gw (hK0.out _ (Ext.refl _)) ?_); intro g)
  go_loopg [5, 6, 7] L.length (fun gh u bx fd wr => ∃ (k : Nat) (bxn : Nat) (xa xn : Int), bx = .pointer (some ⟨bxn, 0, none⟩) ∧ fd = .bool (decide (k < L.length)) ∧ gh = L.length - k ∧ k ≤ L.length ∧ Hid ((∃ P', ths P' = pkL k L ∧ P'.length = L.length - k ∧ QS wr B q P' n ∧ (xa, xn) = hdL (pkL k L)) ∧ (∀ i, i < k → (hdL (pkL i L)).1 < b)) ∧ Hid (OwnJ wr w.heap.size u (outs k L)) ∧ Hid (Ob wr bxn 27 [.int .i64 xa, .int .i64 xn]) ∧ Hid (u.ownBlock ≠ some bxn) ∧ w.heap.size ≤ bxn ∧ Hid (Ft B Tq w wr))
  case atStart => exact ⟨0, _, ra, rn, rfl, rfl, rfl, Nat.zero_le _, ⟨h00.out g, fun i hi => absurd hi (Nat.not_lt_zero i)⟩, World.ownsRow_nil _ _ _ _, Ob.new _ _ _, (show (Value.slice none 0 0).ownBlock ≠ some _ by simp [Value.ownBlock]), g.grown.size, Ft.of_ext (g.grown.alloc _)⟩
  case round =>
    obtain ⟨k, bxn, xa, xn, rfl, rfl, hg, hk, hst, hown, hob, hnb, hbx, hF⟩ := hrel
    clear h00 hK0
    have c0 := hob.out.cell 0 rfl
    have c1 := hob.out.cell 1 rfl
    have hbl := hob.out.lt
    haveI : In bxn wr := ⟨hbl⟩
    obtain ⟨A, cap, rfl⟩ := own_form hown.out
    rw [outs_length] at *
    by_cases hlt : k < L.length
    · rw [decide_eq_true hlt]
      have hok := hide (fun w' (hX : Ext wr w') => below_c (xa, xn) bb b w' (Ob.ext (hF.out.ob hbbh.out (by decide)) hX))
      by_cases hb : xa < b
      · simp only [decide_eq_true hb] at hok
        obtain ⟨P', hth, hPl, hQS, hhd⟩ := hst.out.1
        have hall := hst.out.2
        have hD := hide (fun w' (hX : Ext wr w') => drop_c B q P' (by omega) (by omega) n w' (hQS.ext hX))
        rw [hth] at hD
        have hthn : ∀ P'', ths P'' = popL (pkL k L) → P''.length = L.length - (k + 1) := fun P'' e => by
          have h1 := congrArg List.length e
          have h2 := pkL_length L (k + 1) (by omega)
          rw [pkL] at h2
          simpa [ths, h2] using h1
        have hK := hide (fun w' P'' (h1 : ths P'' = popL (pkL k L)) (h2 : QS w' B q P'' n) => by
          have := peek_c B q P'' n w' h2
          rw [hthn P'' h1, h1] at this
          exact this)
        have hdn : (decide (0 < L.length - (k + 1))) = decide (k + 1 < L.length) := by
          by_cases h7 : k + 1 < L.length
          · rw [decide_eq_true h7, decide_eq_true (by omega)]
          · rw [decide_eq_false h7, decide_eq_false (by omega)]
        rw [hdn] at hK
        have hon := hide (outs_next k L)
        have hall2 := hide (show ∀ i, i < k + 1 → (hdL (pkL i L)).1 < b from fun i hi => by
          rcases Nat.lt_or_ge i k with h | h
          · exact hall i h
          · obtain rfl : i = k := by omega
            rw [← hhd]; exact hb)
        rw [← hhd] at hon
        have hpk := hide (show pkL (k + 1) L = popL (pkL k L) from rfl)
        replace hthn := hide hthn
        obtain ⟨⟨ya, yn⟩, hy⟩ : ∃ y, y = hdL (popL (pkL k L)) := ⟨_, rfl⟩
        have hyh := hide hy
        rw [← hy] at hK
        have hol := hide (outs_length k L)
        have hkl9 : k ≤ 1000000 := by omega
        clear hst hth hPl hQS hhd hall hdn hy hok
        replace hb := hide hb
        generalize popL (pkL k L) = L2 at *
        generalize outs k L = O1 at *
        have hok := hide (fun w' (hX : Ext wr w') => below_c (xa, xn) bb b w' (Ob.ext (hF.out.ob hbbh.out (by decide)) hX))
        simp only [decide_eq_true hb.out] at hok
        go_wp2_with (first | (go_at_call 16; (with_reducible refine seq_gw (hok.out _ (Ext.refl _)) ?_); intro g1) | (go_at_call 19; (refine (hD.out _ g1.grown).mono ?_; rintro ee w2 ⟨rfl, ⟨P2, d1, d2⟩, d3⟩; have OX2 := d3.ob (hob.out.ext g1.grown) (by decide); have k0 := OX2.cell 0 rfl; have k1 := OX2.cell 1 rfl; have xl2 := OX2.lt; haveI : In bxn w2 := ⟨xl2⟩; have hO2 := d3.own (own_ext hown.out g1.grown) (by decide); rw [hol.out] at hO2; have hw2 := d3.size; have hF2 := hide ((hF.out.trans (Ft.of_ext g1.grown)).trans d3); have hs2 := hF2.out.size; replace OX2 := hide OX2; replace d2 := hide d2; replace d3 := hide d3; replace hO2 := hide hO2)) | (at_builtin; (refine wpl_app tJmp rfl (.tmp 26) (.tmp 28) rfl rfl (own_ext hO2.out ((Ext.refl w2).alloc _)) rfl (src_jmp Try.underlying30 w2 (xa, xn) _) (by unfold maxLen; omega) (by omega) (by simp only [World.size_alloc]; omega) ?_; intro v3 w3 ho3 hg3 hd3; have OX3 := hide ((OX2.out.alloc (.cells #[.int .i64 xa, .int .i64 xn] 27)).grown hg3 (fun e => hnb.out e.symm)); have m0 := OX3.out.cell 0 rfl; have m1 := OX3.out.cell 1 rfl; have xl3 := OX3.out.lt; haveI : In bxn w3 := ⟨xl3⟩; have hQ3 := hide ((d2.out.ext ((Ext.refl w2).alloc (.cells #[.int .i64 xa, .int .i64 xn] 27))).ft (Ts := [27]) ((Ft.refl _).grown hg3 (fun kk hk => by obtain ⟨u1, u2, u3, u4⟩ := own_typed (own_ext hO2.out ((Ext.refl w2).alloc (.cells #[.int .i64 xa, .int .i64 xn] 27))) kk hk; exact ⟨by omega, u2, _, u3, u4, by simp⟩)) (by decide) (by decide)); have hF3 := hide ((hF2.out.trans (Ft.of_ext ((Ext.refl w2).alloc (.cells #[.int .i64 xa, .int .i64 xn] 27)))).grownNew hg3 (fun kk hk => (hO2.out.lt kk hk).1)); have hs3 := hF3.out.size; have ho3l := ho3.lt; replace ho3 := hide ho3; replace ho3l := hide ho3l)) | (go_at_call 12; (with_reducible refine seq_gw (hK.out _ _ d1 (hQ3.out.ext ((Ext.refl _).alloc _))) ?_); intro g4))
        have OB4 := (Ob.new w3 27 [.int .i64 xa, .int .i64 xn]).ext g4.grown
        have hB3 : B ≤ w3.heap.size := by omega
        have ho4 : OwnJ w3 w.heap.size v3 (outs (k + 1) L) := by rw [hon.out]; exact own_appJ (by rw [hol.out]; exact ho3.out)
        have ho5 : OwnJ ((g4.val.setCell ⟨w3.heap.size, 0, none⟩ (.int .i64 ya)).setCell ⟨w3.heap.size, 1, none⟩ (.int .i64 yn)) w.heap.size v3 (outs (k + 1) L) :=
          own_off (own_ext ho4 (((Ext.refl w3).alloc _).trans g4.grown)) (((Fr.refl [w3.heap.size] g4.val).setCell ⟨w3.heap.size, 0, none⟩ (.int .i64 ya) (.inl (by simp))).setCell ⟨w3.heap.size, 1, none⟩ (.int .i64 yn) (.inl (by simp))) (fun y hy m => by have := (ho3l.out y hy).2; rw [List.mem_singleton] at m; omega)
        have hQ5 := ((hQ3.out.ext (((Ext.refl w3).alloc (.cells #[.int .i64 xa, .int .i64 xn] 27)).trans g4.grown)).set (i := 0) OB4 hB3 (.int .i64 ya)).set (i := 1) (OB4.set 0 (.int .i64 ya)) hB3 (.int .i64 yn)
        have hF5 := (((hF3.out.trans (Ft.of_ext (((Ext.refl w3).alloc (.cells #[.int .i64 xa, .int .i64 xn] 27)).trans g4.grown))).setNew (p := ⟨w3.heap.size, 0, none⟩) hs3 (.int .i64 ya)).setNew (p := ⟨w3.heap.size, 1, none⟩) hs3 (.int .i64 yn))
        have hO5 := (OB4.set 0 (.int .i64 ya)).set 1 (.int .i64 yn)
        go_roundg (L.length - (k + 1))
        case measure => omega
        case rel => exact ⟨k + 1, w3.heap.size, ya, yn, rfl, rfl, rfl, by omega, ⟨⟨P2, by rw [hpk.out]; exact d1, hthn.out P2 d1, hQ5, by rw [hpk.out]; exact hyh.out⟩, hall2.out⟩, ho5, hO5, (fun e => by have := (ho3l.out _ e).2; omega), hs3, hF5⟩
      · simp only [decide_eq_false hb] at hok
        have hW : Hid (W = k) := hwn.out k hk hst.out.2 (.inr (by obtain ⟨⟨P', -, -, -, h4⟩, -⟩ := hst.out; rw [← h4]; omega))
        have hfin : Hid ((∃ P', ths P' = pkL k L ∧ QS wr B q P' n)) := by obtain ⟨⟨P', h1, -, h3, -⟩, -⟩ := hst.out; exact ⟨P', h1, h3⟩
        clear hst hwn hlt
        go_wp2_with (go_at_call 16; (with_reducible refine seq_gw (hok.out _ (Ext.refl _)) ?_); intro g1)
        go_returns
        obtain ⟨P', h1, h3⟩ := hfin.out
        rw [hW.out]
        refine ⟨_, rfl, ?_, ⟨P', h1, h3.ext g1.grown⟩, hF.out.trans (Ft.of_ext g1.grown)⟩
        exact own_ext hown.out g1.grown
    · rw [decide_eq_false hlt]
      have hkl : k = L.length := by omega
      have hW : Hid (W = k) := hwn.out k hk hst.out.2 (.inl hkl)
      have hfin : Hid ((∃ P', ths P' = pkL k L ∧ QS wr B q P' n)) := by obtain ⟨⟨P', h1, -, h3, -⟩, -⟩ := hst.out; exact ⟨P', h1, h3⟩
      replace hkl := hide hkl
      clear hst hwn hlt hk
      go_wp2_with fail
      go_returns
      obtain ⟨P', h1, h3⟩ := hfin.out
      rw [hW.out]
      refine ⟨_, rfl, ?_, ⟨P', h1, h3⟩, hF.out⟩
      exact hown.out
end Go.Proofs.Ytjibolpegijhkaa
