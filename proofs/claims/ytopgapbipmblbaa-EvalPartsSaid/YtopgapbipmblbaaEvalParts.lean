/-
  Layer 18 (eval), 18.3: an answer is what the last word says of its parts' answers; a part's error is the whole's: every list of words, and row. No condition.
-/
import Derived.Test.YtopgapbipmblbaaEvaX
import Derived.Test.YtopgapbipmblbaaArgV
import Derived.WalkKit
import Derived.ProofKit
import Derived.OpenShut
import Derived.ShutString
import Derived.ChangeOld
import Derived.Below
import Derived.Lib.SmallJoins
import Derived.SizedLaws
import Derived.Deep.CondSized
import Derived.JoinedCond
set_option linter.unusedVariables false
set_option linter.unusedSimpArgs false
namespace Go.Proofs.Ytopgapbipmblbaa.evalParts
open Go.ChangeShapes Go.WideShapes Go.ChangeAt Go.RowKit Go.Joins
open Go.ChangeMaps (open_string shut_string)
attribute [local go_sem] GW.cell GW.frozen In.eq_true In.le_true In.ne In.ne' In.ne_add In.ne_add' In.lt_add Upto.le_true Upto.le_add Upto.lt_add

set_option maxHeartbeats 8000000 in
set_option maxRecDepth 100000 in
theorem walk (l r : List Vl) (hi : ∀ o ∈ l, inW o) (hri : ∀ v ∈ r, inW v) (v rvv : Value) (w : World) (h : Rw w [] v l) (hrr : Rw w [] rvv r) : Calls Try.prog 6 #[v, rvv] w fun e w' => e = .returned (.bool true) ∧ Ext w w' := by
  have h1 := hide (parts_c l v w h)
  have h2 := hide (fun w' (hX : Ext w w') => eval_c l r hri hi v rvv w' (Sl.ext h hX) (Sl.ext hrr hX))
  obtain ⟨Z, hZ⟩ : ∃ Z, Z = evX l r := ⟨_, rfl⟩
  rw [← hZ] at h2
  by_cases hz : formE l = 0
  · obtain ⟨t, tg, rfl, h64⟩ := formE_tree hz
    have hpt := hide (fun L (hL : partsE t.flat L) => parts_tree tg h64 hL)
    rw [hz] at h1
    by_cases hz2 : Z.2 = 2
    · obtain ⟨⟨k, n, s⟩, z⟩ := Z
      simp only at hz2
      subst hz2
      obtain ⟨A, cap, rfl, -, -, -⟩ := rw_form h
      obtain ⟨B, rcap, rfl, -, -, -⟩ := rw_form hrr
      clear h hrr hi hri hZ hz
      go_enter Try.func6, Try.ntmps6
      go_wp2_with (first | (go_at_call 23; refine h1.out.mono ?_; rintro ee w1 ⟨v1, L, rfl, hL, hP, hx1⟩; obtain rfl := hpt.out L hL; obtain ⟨P, pc, rfl⟩ : ∃ P pc, v1 = .slice P (t.kids.map Tr.flat).length pc := (let ⟨us, ho, _⟩ := hP; own_form ho)) | (go_at_call 16; (with_reducible refine seq_gw (h2.out _ hx1) ?_); intro g2) | (go_at_call 20; (with_reducible refine seq_gw (evaLive_c _) ?_); intro g3))
      go_returns
      exact ⟨by first | rfl | simp, ((hx1.trans g2.grown).alloc _).trans g3.grown⟩
    · by_cases hK0 : t.kids = []
      · obtain ⟨⟨k, n, s⟩, z⟩ := Z
        simp only at hz2
        have bz2 : (z == 2) = false := by simpa using hz2
        obtain ⟨A, cap, rfl, -, -, -⟩ := rw_form h
        obtain ⟨B, rcap, rfl, -, -, -⟩ := rw_form hrr
        rw [hK0] at hpt
        clear h hrr hi hri hZ hz hK0 hz2
        go_enter Try.func6, Try.ntmps6
        go_wp2_with (first | (go_at_call 23; refine h1.out.mono ?_; rintro ee w1 ⟨v1, L, rfl, hL, hP, hx1⟩; obtain rfl := hpt.out L hL; obtain ⟨P, pc, rfl⟩ : ∃ P pc, v1 = .slice P (([] : List Tr).map Tr.flat).length pc := (let ⟨us, ho, _⟩ := hP; own_form ho)) | (go_at_call 16; (with_reducible refine seq_gw (h2.out _ hx1) ?_); intro g2) | (go_at_call 20; (with_reducible refine seq_gw (evaLive_c _) ?_); intro g3))
        go_returns
        exact ⟨by first | rfl | simp, ((hx1.trans g2.grown).alloc _).trans g3.grown⟩
      · have hm : mayR r = true := by
          cases e : mayR r with
          | true => rfl
          | false => exact absurd (by rw [hZ]; unfold evX; rw [if_pos hz, e]; rfl) hz2
        have hr : ∀ v ∈ r, fine v := fun v hv => ⟨(mayR_iff.1 hm).2 v hv, hri v hv⟩
        rw [evX_tree tg h64 hm] at hZ
        have hev := evT_kids (evF r) t
        have hki := hide (fun k (hk : k ∈ t.kids) => (show ∀ o ∈ k.flat, inW o from fun o ho => hi o (Tr.kid_mem hk ho)))
        have hfin := hide (fun (k : Tr) (hk : k ∈ t.kids) (x : Vl) (hx : evT (evF r) k = .ok x) => evT_fine hr k (t.kids_good tg k hk) (Tr.inw_of k (hki.out k hk)) x hx)
        have hcall := hide (fun k (hk : k ∈ t.kids) v w' (hX : Ext w w') (hv : Rw w' [] v k.flat) => (by
          have := eval_c k.flat r hri (hki.out k hk) v rvv w' hv (Sl.ext hrr hX)
          rw [evX_tree (t.kids_good tg k hk) (Nat.le_trans (Tr.kid_len hk) h64) hm] at this
          exact this : Calls Try.prog 16 #[v, rvv] w' fun e w'' => e = .returned (tupV (resX (evT (evF r) k))) ∧ Ext w' w''))
        have hagain := hide (fun (xs : List Vl) (hx : xs.length = t.kids.length) (hf : ∀ v ∈ xs, fine v) => again_ev (r := r) tg hx hK0 hf)
        have htopi := hi t.top (Tr.top_mem t)
        have hlast := hide (fun (xs : List Vl) (hf : ∀ v ∈ xs, fine v) (v : Value) w' (hv : Rw w' [] v (xs.map wordV ++ [t.top])) => eval_c (xs.map wordV ++ [t.top]) [] (by simp) (by
          intro o ho
          rcases List.mem_append.1 ho with ho | ho
          · obtain ⟨x, hx, rfl⟩ := List.mem_map.1 ho
            exact wordV_in (hf x hx)
          · obtain rfl : o = t.top := by simpa using ho
            exact htopi) v (.slice none 0 0) w' hv (Sl.nil w' [] 3))
        obtain ⟨A, cap, rfl, hl, hmx, hat⟩ := rw_form h
        obtain ⟨B, rcap, rfl, -, -, -⟩ := rw_form hrr
        have hfl : t.flat = flats t.kids ++ [t.top] := by rw [Tr.flat_kids]; rfl
        have hlen : t.flat.length = (flats t.kids).length + 1 := by rw [hfl]; simp
        obtain ⟨b, off, rfl, -, hb, c0, c1, c2⟩ := hat (flats t.kids).length t.top (by rw [hfl]; simp)
        have hk2 : t.kids.length ≤ 2 := by cases t <;> simp [Tr.kids]
        have hkpos : 0 < t.kids.length := List.length_pos_iff.2 hK0
        rw [hlen] at hl h64 h1 h2
        rw [hlen]
        clear hat h hrr hfl hlen hmx tg htopi hki hr hm hi hri hz hK0
        obtain ⟨T, hT⟩ : ∃ T, T = evT (evF r) t := ⟨_, rfl⟩
        rw [← hT] at hZ hev
        clear hT
        generalize t.kids = K at *
        generalize t.top = o at *
        generalize (flats K).length = m at *
        replace hev := hide hev
        replace hZ := hide hZ
        obtain ⟨⟨k, n, s⟩, z⟩ := Z
        simp only at hz2
        have bz2 : (z == 2) = false := by simpa using hz2
        obtain ⟨oc, on, os⟩ := o
        simp only at c0 c1 c2
        have hm1 : (m : Int) < m + 1 := by omega
        have hKI : ((K.length : Int) == 0) = false := by rw [beq_eq_false_iff_ne]; omega
        clear hz2
        go_enter Try.func6, Try.ntmps6
        go_wp2_with (first | (go_at_call 23; refine h1.out.mono ?_; rintro ee w1 ⟨v1, L, rfl, hL, hP, hx1⟩; obtain rfl := hpt.out L hL; replace hP := hide hP; obtain ⟨P, pc, rfl⟩ : ∃ P pc, v1 = .slice P (K.map Tr.flat).length pc := (let ⟨us, ho, _⟩ := hP.out; own_form ho)) | (go_at_call 16; (with_reducible refine seq_gw (h2.out _ hx1) ?_); intro g2))
        have hXA := hide (Ext.refl (g2.val.alloc (.cells #[.int .i64 k, .int .i64 n, .string s] 40)))
        have hwA := hide ((hx1.trans g2.grown).alloc (.cells #[.int .i64 k, .int .i64 n, .string s] 40))
        have h1A := hide (g2.grown.alloc (.cells #[.int .i64 k, .int .i64 n, .string s] 40))
        have hlit := hide (World.ownsRow_lit (base := g2.val.heap.size + 1) (e := 57) (size := 3) (g2.val.alloc (.cells #[.int .i64 k, .int .i64 n, .string s] 40)) #[] 0 (by simp only [World.size_alloc]; omega) (by decide) rfl)
        rw [World.size_alloc] at hlit
        have hOb := hide (Ob.new g2.val 40 [.int .i64 k, .int .i64 n, .string s])
        clear h1 h2 hpt
        go_loopg [9, 10] K.length (fun gh av iv wr => ∃ (i : Nat) (acc : List Vl), iv = .int .i64 i ∧ i + gh = K.length ∧ Hid (i = acc.length) ∧ OwnX wr (g2.val.heap.size + 1) av (acc.map wordV) ∧ Hid (evL (evF r) (K.take i) = .ok acc) ∧ Hid (∀ v ∈ acc, fine v) ∧ Ext (g2.val.alloc (.cells #[.int .i64 k, .int .i64 n, .string s] 40)) wr)
        case atStart => exact ⟨0, [], rfl, by omega, rfl, (by have h := hlit.out; exact h), rfl, (by intro x hx; cases hx), (Ext.refl _).alloc _⟩
        case round =>
          obtain ⟨i, acc, rfl, hi, hia, ho, hevl, hfn, hX⟩ := hrel
          clear hlit
          have hzX := hX.size
          rw [World.size_alloc] at hzX
          by_cases hlt : i < K.length
          · obtain ⟨kt, hkt⟩ : ∃ kt, K[i]? = some kt := ⟨_, List.getElem?_eq_getElem hlt⟩
            obtain ⟨gp, pcap, A1, c3, e, hgp, hcell, hrw⟩ := parts_at (hP.out.ext (h1A.out.trans hX)) i kt.flat (by rw [List.getElem?_map, hkt]; rfl)
            obtain ⟨rfl, -, rfl⟩ := Value.slice.inj e
            haveI : In gp wr := ⟨hgp⟩
            have hmem := List.mem_of_getElem? hkt
            have hcl := hide (hcall.out kt hmem _ wr (hwA.out.trans hX) hrw)
            have hsn := evL_snoc (evF r) (K.take i) kt acc hevl.out
            have her := fun e => evL_err (evF r) K i kt acc e hkt hevl.out
            have hez := evT_ne0 r kt
            have hff := hfin.out kt hmem
            have htk : K.take (i + 1) = K.take i ++ [kt] := by rw [List.take_add_one, hkt, Option.toList_some]
            rw [← htk] at hsn
            have hltI : (i : Int) < K.length := by omega
            have hal : (acc.map wordV).length ≤ 2 := by have := hia.out; rw [List.length_map]; omega
            clear e hkt htk hmem hrw
            generalize evT (evF r) kt = Y at *
            cases Y with
            | error e =>
              have hze : z = e := by
                have h3 := hev.out
                rw [her e rfl] at h3
                have h4 := hZ.out
                rw [h3] at h4
                exact congrArg Prod.snd h4
              have hezI : (e != 0) = true := by rw [bne_iff_ne]; exact hez e rfl
              clear hsn her hez hff hev hZ
              subst hze
              replace hcl := hide (show Calls Try.prog 16 _ wr fun ee w'' => ee = .returned (.tuple #[val 0 0 ⟨#[]⟩, .int .i64 z]) ∧ Ext wr w'' from hcl.out)
              go_wp2_with (first | (go_at_call 16; (with_reducible refine seq_gw hcl.out ?_); intro g5) | (go_at_call 20; (with_reducible refine seq_gw (evaLive_c _) ?_); intro g6))
              go_returns
              exact ⟨by first | rfl | simp, (((hwA.out.trans hX).trans g5.grown).alloc _).trans g6.grown⟩
            | ok x =>
              have hsn2 := hide hsn
              have hfx := hff x rfl
              have hfxH := hide hfx
              replace hcl := hide (show Calls Try.prog 16 _ wr fun ee w'' => ee = .returned (.tuple #[val x.1 x.2.1 x.2.2, .int .i64 0]) ∧ Ext wr w'' from hcl.out)
              clear hsn her hez hff hev hZ
              rcases fine_cases hfx with ⟨q, rfl, hq⟩ | ⟨u, rfl, hu⟩
              · clear hfx hq
                go_wp2_with (first | (go_at_call 16; (with_reducible refine seq_gw hcl.out ?_); intro g5; have hz5 := GW.size g5) | (at_builtin; (refine wpl_app tOp rfl (.tmp 81) (.tmp 83) rfl rfl (own_ext ho (((g5.grown.alloc (.cells #[.int .i64 1, .int .i64 q, .string ⟨#[]⟩] 40)).alloc (.cells #[.int .i64 1, .int .i64 q, .string ⟨#[]⟩] 57)).alloc _)) rfl (src_wordB Try.underlying23 _ (1, q, ⟨#[]⟩) _ _ (by simp only [World.size_alloc])) (by unfold maxLen; omega) (by omega) (by simp only [World.size_alloc]; omega) ?_; intro v6 w6 ho6 hg6 _)))
                go_roundg (K.length - (i + 1))
                case measure => omega
                case rel => exact ⟨i + 1, acc ++ [(1, q, (⟨#[]⟩ : ByteArray))], by go_num, by omega, (by show _ = _; rw [List.length_append, List.length_singleton, hia.out]), (by have := own_appX (l := acc.map wordV) (m := [(1, q, ⟨#[]⟩)]) (by simpa [rc] using ho6); simpa [wordV] using this), hsn2.out, (by intro y hy; rcases List.mem_append.1 hy with hy | hy; exact hfn.out y hy; obtain rfl : y = (1, q, ⟨#[]⟩) := (by simpa using hy); exact hfxH.out), ext_grown ((((hX.trans g5.grown).alloc _).alloc _).alloc _) hg6 (fun k hk => (by have := (ho.lt k hk).1; rw [World.size_alloc]; exact this))⟩
              · clear hfx hu
                go_wp2_with (first | (go_at_call 16; (with_reducible refine seq_gw hcl.out ?_); intro g5; have hz5 := GW.size g5) | (at_builtin; (refine wpl_app tOp rfl (.tmp 81) (.tmp 83) rfl rfl (own_ext ho (((g5.grown.alloc (.cells #[.int .i64 2, .int .i64 0, .string u] 40)).alloc (.cells #[.int .i64 2, .int .i64 0, .string u] 57)).alloc _)) rfl (src_wordB Try.underlying23 _ (2, 0, u) _ _ (by simp only [World.size_alloc, World.size_setCell])) (by unfold maxLen; omega) (by omega) (by simp only [World.size_alloc, World.size_setCell]; omega) ?_; intro v6 w6 ho6 hg6 _)))
                go_roundg (K.length - (i + 1))
                case measure => omega
                case rel => exact ⟨i + 1, acc ++ [(2, 0, u)], by go_num, by omega, (by show _ = _; rw [List.length_append, List.length_singleton, hia.out]), (by have := own_appX (l := acc.map wordV) (m := [(2, 0, u)]) (by simpa [rc] using ho6); simpa [wordV] using this), hsn2.out, (by intro y hy; rcases List.mem_append.1 hy with hy | hy; exact hfn.out y hy; obtain rfl : y = (2, 0, u) := (by simpa using hy); exact hfxH.out), ext_grown (hX.trans (((g5.grown.alloc (.cells #[.int .i64 2, .int .i64 0, .string u] 40)).alloc (.cells #[.int .i64 2, .int .i64 0, .string u] 57)).alloc _)) hg6 (fun k hk => (by have := (ho.lt k hk).1; rw [World.size_alloc]; exact this))⟩
          · have hik : i = K.length := by omega
            have hge : (K.length : Int) ≤ i := by omega
            rw [hik, List.take_length] at hevl
            have hxl : acc.length = K.length := by have := hia.out; omega
            have hR := hev.out
            rw [hevl.out] at hR
            have hag := hagain.out acc hxl hfn.out
            have hla := hide (fun v w' hv => (by have := hlast.out acc hfn.out v w' hv; rw [hag] at this; exact this : Calls Try.prog 16 #[v, .slice none 0 0] w' fun e w'' => e = .returned (tupV (resX (evF r (oc, on, os) acc))) ∧ Ext w' w''))
            have hZ2 := hZ.out
            rw [hR] at hZ2
            simp only at hZ2
            replace hla := hide (show ∀ v w', Rw w' [] v (acc.map wordV ++ [(oc, on, os)]) → Calls Try.prog 16 #[v, .slice none 0 0] w' fun e w'' => e = .returned (.tuple #[val k n s, .int .i64 z]) ∧ Ext w' w'' by rw [← hZ2] at hla; exact hla.out)
            have q0 := (hOb.out.ext hX).cell 0 rfl
            have q1 := (hOb.out.ext hX).cell 1 rfl
            have q2 := (hOb.out.ext hX).cell 2 rfl
            have hbo : g2.val.heap.size < wr.heap.size := by omega
            haveI : In g2.val.heap.size wr := ⟨hbo⟩
            have k0 := cell_later (hwA.out.trans hX) c0
            have k1 := cell_later (hwA.out.trans hX) c1
            have k2 := cell_later (hwA.out.trans hX) c2
            have hbr := block_lt_of_cell k0
            haveI : In b wr := ⟨hbr⟩
            have hXw := hide (hwA.out.trans hX)
            have hal : (acc.map wordV).length ≤ 2 := by rw [List.length_map]; omega
            have heq := eq_same k n s
            have hObr := hide (hOb.out.ext hX)
            clear hev hZ hZ2 hR hag hagain hlast hcall hfin hP hlt hik hevl c0 c1 c2 hxl hia hfn
            go_wp2_with (first | (at_builtin; (refine wpl_app tOp rfl (.tmp 86) (.tmp 93) rfl rfl (own_ext ho ((Ext.refl wr).alloc _)) rfl (src_wordB Try.underlying23 wr (oc, on, os) _ _ rfl) (by unfold maxLen; omega) (by omega) (by simp only [World.size_alloc]; omega) ?_; intro v8 w8 ho8 hg8 _; have hX8 := hide (ext_grown (hX.alloc (.cells #[.int .i64 oc, .int .i64 on, .string os] 57)) hg8 (fun k hk => (by have := (ho.lt k hk).1; rw [World.size_alloc]; exact this))); have ho9 : OwnX w8 (g2.val.heap.size + 1) v8 (acc.map wordV ++ [(oc, on, os)]) := (by have := own_appX (l := acc.map wordV) (m := [(oc, on, os)]) (by simpa [rc] using ho8); exact this); have hw8 := hide (own_xw (S := []) ho9 (by simp)))) | (go_at_call 16; (with_reducible refine seq_gw (hla.out _ _ hw8.out) ?_); intro g9) | (go_at_call 20; (with_reducible refine seq_gw (evaLive_c _) ?_); intro g10; have p1 := (((hOb.out.ext hX8.out).ext g9.grown).alloc (.cells #[.int .i64 k, .int .i64 n, .string s] 40)).ext g10.grown; have p2 := (Ob.new g9.val 40 [.int .i64 k, .int .i64 n, .string s]).ext g10.grown; have t0 := p1.cell 0 rfl; have t1 := p1.cell 1 rfl; have t2 := p1.cell 2 rfl; have r0 := p2.cell 0 rfl; have r1 := p2.cell 1 rfl; have r2 := p2.cell 2 rfl; haveI : In g2.val.heap.size g10.val := ⟨p1.lt⟩; haveI : In g9.val.heap.size g10.val := ⟨p2.lt⟩))
            go_returns
            exact ⟨by first | rfl | simp, (((hwA.out.trans hX8.out).trans g9.grown).alloc _).trans g10.grown⟩
  · have hzI : (formE l != 0) = true := by simpa using hz
    have hZe : Z = ((0, 0, ⟨#[]⟩), formE l) := by rw [hZ]; unfold evX; rw [if_neg hz]
    subst hZe
    obtain ⟨A, cap, rfl, -, -, -⟩ := rw_form h
    obtain ⟨B, rcap, rfl, -, -, -⟩ := rw_form hrr
    generalize formE l = E at *
    have hzb : (E == 0) = false := by simpa using hz
    clear h hrr hi hri hZ hz
    go_enter Try.func6, Try.ntmps6
    go_wp2_with (first | (go_at_call 23; refine h1.out.mono ?_; rintro ee w1 ⟨v1, L, rfl, hL, hP, hx1⟩; obtain ⟨P, pc, rfl⟩ : ∃ P pc, v1 = .slice P L.length pc := (let ⟨us, ho, _⟩ := hP; own_form ho)) | (go_at_call 16; (with_reducible refine seq_gw (h2.out _ hx1) ?_); intro g2) | (go_at_call 20; (with_reducible refine seq_gw (evaLive_c _) ?_); intro g3))
    go_returns
    exact ⟨by first | rfl | simp, ((hx1.trans g2.grown).alloc _).trans g3.grown⟩

theorem own : ownKnob Try.prog.godebug = none := by kernel_rfl
theorem laidOut : laidOutB Try.prog = true := by kernel_rfl
set_option maxRecDepth 100000 in
theorem lifted (os : Os) (started : os.Started) (H : Type) (enc : TypeId × Value → H) :
    ReturnsInHanded {} Try.checked os 6 .any (Rows.evalPartsSpec.pre6 enc Try.prog Try.f6 Rows.evalPartsRow.domain false) (Rows.evalPartsSpec.post enc Try.prog Try.f6 false true false false) := by
  refine returnsInHanded_of_change_sized (C := Try.checked) own started (by kernel_rfl) Try.func6
    (ChangeSpec.witness6 (enc := enc) (C := Try.checked) false ⟨#[], #[.slice none 0 0, .slice none 0 0], []⟩ 8 (by kernel_rfl) (by kernel_rfl) (by kernel_rfl) (by kernel_rfl)) ?_
  intro W base args ds gs before hval0 hW hcnd hsz0 _
  have hsz : (DataW.weightsEach Try.prog (Try.f6.params.toList ++ Rows.evalPartsSpec.plain.varTypes Try.prog) (ds ++ gs)).all (· ≤ reachBytes) = true := hsz0
  clear hsz0
  have hval : ∀ (j : Nat) t v, Try.f6.params[j]? = some t → args[j]? = some v → Value.okWide Try.prog W .any base t v := hval0
  have hW' := hW
  obtain ⟨p, q, hA0, hV, rfl, hfz, hnd⟩ := hW
  have hA : DataW.TrodAll enc Try.prog W 0 (fun _ => true) true Try.f6.params.toList args.toList ds p := hA0
  rw [Try.params6] at hA hval hsz
  obtain ⟨v0, vs0, d0, ds0, p0, q0, hargs, rfl, rfl, h0, r0⟩ := trodAll_cons hA
  obtain ⟨v1, vs1, d1, ds1, p1, q1, rfl, rfl, rfl, h1, r1⟩ := trodAll_cons r0
  obtain ⟨rfl, rfl, rfl⟩ := trodAll_nil r1
  obtain rfl : args = #[v0, v1] := by cases args; simp_all
  obtain ⟨rfl, rfl⟩ := trodVars_none hV
  have k0 := h0
  have lt0 : ∀ x ∈ p0, x.block < W.heap.size := by obtain ⟨m, hm⟩ := k0; exact DataW.trod_lt m _ _ _ hm
  obtain ⟨A0, n0, c0, rfl⟩ := okWide_slice Try.underlying23 (hval 0 23 v0 rfl rfl)
  have ⟨m0, hm0⟩ := h0
  obtain ⟨l, ll, hl, ql⟩ := open_row Try.underlying23 Try.underlying57 (by kernel_rfl) rfl rfl rfl (by kernel_rfl) (by kernel_rfl) (by kernel_rfl) Try.underlying55 Try.underlying3 Try.underlying9 hm0
  have zl : l.length * 32 ≤ 140737488351232 := by rw [ll]; exact sized_elems hsz (j := 0) (t := 23) (e := 57) rfl rfl Try.underlying23 (by kernel_rfl)
  have k1 := h1
  have lt1 : ∀ x ∈ p1, x.block < W.heap.size := by obtain ⟨m, hm⟩ := k1; exact DataW.trod_lt m _ _ _ hm
  obtain ⟨A1, n1, c1, rfl⟩ := okWide_slice Try.underlying37 (hval 1 37 v1 rfl rfl)
  have ⟨m1, hm1⟩ := h1
  obtain ⟨r, lr, hr, qr⟩ := open_row Try.underlying37 Try.underlying40 (by kernel_rfl) rfl rfl rfl (by kernel_rfl) (by kernel_rfl) (by kernel_rfl) Try.underlying38 Try.underlying3 Try.underlying9 hm1
  have zr : r.length * 32 ≤ 140737488351232 := by rw [lr]; exact sized_elems hsz (j := 1) (t := 37) (e := 40) rfl rfl Try.underlying37 (by kernel_rfl)
  clear hA0 hval0
  refine (walk l r ql qr _ _ W hl hr).mono fun e W' ⟨he, bel⟩ => ?_
  subst he
  exact ⟨_, rfl, _, _, _, [], _, [], hW', trodAll_mk1 (shut_bool Try.underlying4 _), (trodAll_cons_mk (Below.trod laidOut (by kernel_rfl) (of_decide_eq_true (by kernel_rfl)) k0 bel lt0) (trodAll_cons_mk (Below.trod laidOut (by kernel_rfl) (of_decide_eq_true (by kernel_rfl)) k1 bel lt1) trodAll_mk0)), rfl, bel.frame _, fun h => by cases h⟩

theorem over : Rows.evalPartsRow.holds Try.pinned (OpenSpec.ofChange Rows.evalPartsSpec) :=
  OpenClaim.holds_of_wide 6 Try.f6 rfl rfl rfl rfl rfl rfl rfl ⟨rfl, rfl, rfl, rfl, rfl⟩ rfl rfl rfl rfl rfl (by kernel_rfl) Try.func6 (by kernel_rfl)
    (of_decide_eq_true (by kernel_rfl)) (by unfold Func.isWrapper; first | (rw [if_pos (by decide +kernel)]; kernel_rfl) | (rw [if_neg (by decide +kernel)]; exact ⟨rfl, rfl⟩))
    (fun os started H enc _ => lifted os started H enc)

theorem evalParts_holds : Rows.EvalPartsSaid := over
end Go.Proofs.Ytopgapbipmblbaa.evalParts
