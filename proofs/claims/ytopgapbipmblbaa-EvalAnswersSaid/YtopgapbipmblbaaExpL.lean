/-
  A helper of ours: no claim of its own. Layer 17 (expr): what must be whatever is asked.
-/
import Derived.Test.YtopgapbipmblbaaExpH
set_option linter.unusedVariables false
set_option linter.unusedSimpArgs false
namespace Go.Proofs.Ytopgapbipmblbaa
open Go.RowKit
attribute [local go_sem] GW.cell GW.frozen In.eq_true In.le_true In.ne In.ne' In.ne_add In.ne_add' In.lt_add Upto.le_true Upto.le_add Upto.lt_add
def mkT (o : Vl) (xs : List Tr) : Except Int Tr := match xs with
  | [] => .ok (.leaf o)
  | [a] => .ok (.one o a)
  | a :: b :: _ => .ok (.two o a b)
theorem mkT_ev : ∀ t : Tr, evT mkT t = .ok t
  | .leaf o => rfl
  | .one o a => by simp only [evT, mkT_ev a]; rfl
  | .two o a b => by simp only [evT, mkT_ev a, mkT_ev b]; rfl
/-- Each expression is read in one way. -/
theorem flat_inj {t u : Tr} (ht : t.good) (hu : u.good) (h : t.flat = u.flat) : t = u := by
  have h1 := stR_all mkT t ht
  have h2 := stR_all mkT u hu
  rw [h, h2, mkT_ev, mkT_ev] at h1
  simp only [Except.ok.injEq, List.cons.injEq, and_true] at h1
  exact h1.symm
theorem parts_tree {t : Tr} {L : List (List Vl)} (g : t.good) (h64 : t.flat.length ≤ 64) (h : partsE t.flat L) : L = t.kids.map Tr.flat := by
  rcases h with ⟨h, -⟩ | ⟨u, gu, e, -, rfl⟩
  · exact absurd (formE_of g h64) h
  · rw [flat_inj g gu e]
def wG : Vl := (3, 0, ⟨#[]⟩)
def w1 : Vl := (1, 1, ⟨#[]⟩)
def w2 : Vl := (1, 2, ⟨#[]⟩)
def wM : Vl := (9, 0, ⟨#[]⟩)
def wA : Vl := (7, 0, ⟨#[]⟩)
def wL : Vl := (6, 0, ⟨#[]⟩)
def tLive : Tr := .two wA (.leaf wG) (.two wM (.leaf w1) (.leaf w2))
theorem gLive : tLive.good := ⟨rfl, rfl, ⟨rfl, rfl⟩, rfl, rfl, ⟨rfl, rfl⟩, rfl, rfl⟩
def lLive : List Vl := [wG, w1, w2, wM, wA]
theorem fLive : tLive.flat = lLive := rfl
def sLive : List Cl := [(⟨#[97]⟩, 1)]
theorem formLive : formE lLive = 0 := by decide +kernel
theorem formNil : formE [] = 18 := by decide +kernel
theorem ck1 : exK (ckF sLive lLive) = 1 := by decide +kernel
theorem ck1E : exE (ckF sLive lLive) = 0 := by decide +kernel
theorem ck2E : exE (ckF sLive [wG, wL]) = 12 := by decide +kernel
theorem ck2 : exK (ckF sLive [wG, wL]) = 0 := by decide +kernel
abbrev oLive : Obj := .cells #[.int .i64 3, .int .i64 0, .string ⟨#[]⟩, .int .i64 1, .int .i64 1, .string ⟨#[]⟩, .int .i64 1, .int .i64 2, .string ⟨#[]⟩, .int .i64 9, .int .i64 0, .string ⟨#[]⟩, .int .i64 7, .int .i64 0, .string ⟨#[]⟩] 57
abbrev oSLive : Obj := .cells #[.string ⟨#[97]⟩, .int .i64 1] 63
abbrev oLive2 : Obj := .cells #[.int .i64 3, .int .i64 0, .string ⟨#[]⟩, .int .i64 6, .int .i64 0, .string ⟨#[]⟩] 57
theorem rwLive (w : World) : Rw (w.alloc oLive) [] (.slice (some ⟨w.heap.size, 0, none⟩) 5 5) lLive := Sl.own (World.ownsRow_lit (base := w.heap.size) (e := 57) (size := 3) w #[.int .i64 3, .int .i64 0, .string ⟨#[]⟩, .int .i64 1, .int .i64 1, .string ⟨#[]⟩, .int .i64 1, .int .i64 2, .string ⟨#[]⟩, .int .i64 9, .int .i64 0, .string ⟨#[]⟩, .int .i64 7, .int .i64 0, .string ⟨#[]⟩] 5 (Nat.le_refl _) (by decide) rfl) (by simp)
theorem cwLive (w : World) : Cw (w.alloc oSLive) [] (.slice (some ⟨w.heap.size, 0, none⟩) 1 1) sLive := Sl.own (World.ownsRow_lit (base := w.heap.size) (e := 63) (size := 2) w #[.string ⟨#[97]⟩, .int .i64 1] 1 (Nat.le_refl _) (by decide) rfl) (by simp)
theorem cwLive' (w : World) : Cw ((w.alloc oLive).alloc oSLive) [] (.slice (some ⟨w.heap.size + 1, 0, none⟩) 1 1) sLive := by
  have := cwLive (w.alloc oLive)
  rwa [World.size_alloc] at this
theorem rwLive2 (w : World) : Rw (w.alloc oLive2) [] (.slice (some ⟨w.heap.size, 0, none⟩) 2 2) [wG, wL] := Sl.own (World.ownsRow_lit (base := w.heap.size) (e := 57) (size := 3) w #[.int .i64 3, .int .i64 0, .string ⟨#[]⟩, .int .i64 6, .int .i64 0, .string ⟨#[]⟩] 2 (Nat.le_refl _) (by decide) rfl) (by simp)
theorem partsLive {w : World} {base : Nat} {v : Value} {L : List (List Vl)} (h : partsE lLive L) (hP : PartsIn w base v L) : ∃ (g cap : Nat) (A : Option Addr) (c : Nat), v = .slice (some ⟨g, 0, none⟩) 2 cap ∧ g < w.heap.size ∧ w.cell? ⟨g, 1, none⟩ = some (.slice A 3 c) := by
  have e := parts_tree gLive (by decide) h
  subst e
  obtain ⟨us, ho, hr⟩ := hP
  obtain ⟨u, hu, hw⟩ := hr 1 _ rfl
  obtain ⟨A, c, rfl, -⟩ := rw_form hw
  rcases ho.2 with ⟨_, h0⟩ | ⟨g, cap, cur, rfl, _⟩
  · cases h0
  · have c1 := ho.cells (g := g) rfl 1 _ hu
    rw [add_plain] at c1
    exact ⟨g, cap, A, c, rfl, block_lt_of_cell c1, c1⟩
set_option maxHeartbeats 4000000 in
set_option maxRecDepth 100000 in
theorem expLive_c (w : World) : Calls Try.prog 12 #[] w fun e w' => e = .returned (.bool true) ∧ Ext w w' := by
  have hx := hide (rwLive w)
  have hs := hide (cwLive' w)
  have hck := hide (fun v sv w' (h1 : Rw w' [] v lLive) (h2 : Cw w' [] sv sLive) => check_c sLive lLive v sv w' h1 h2)
  rw [ck1, ck1E] at hck
  have hck2 := hide (fun v sv w' (h1 : Rw w' [] v [wG, wL]) (h2 : Cw w' [] sv sLive) => check_c sLive [wG, wL] v sv w' h1 h2)
  rw [ck2, ck2E] at hck2
  have hpt := hide (fun v w' (h1 : Rw w' [] v lLive) => parts_c lLive v w' h1)
  rw [formLive] at hpt
  have hfn := hide (fun w' => form_c [] (.slice none 0 0) w' (Sl.nil _ _ _))
  rw [formNil] at hfn
  have htk := hide (fun w' => takes_c 7 w')
  rw [show tkI 7 = 2 from rfl] at htk
  have hX0 := hide (((Ext.refl w).alloc oLive).alloc oSLive)
  have hY0 := hide ((Ext.refl (w.alloc oLive)).alloc oSLive)
  go_enter Try.func12, Try.ntmps12
  go_wp2_with (first
    | (go_at_call 21; (with_reducible refine seq_gw (hck.out _ _ _ (Sl.ext hx.out hY0.out) hs.out) ?_); intro g; clear hck)
    | (go_at_call 23; refine (hpt.out _ _ (Sl.ext hx.out (hY0.out.trans g.grown))).mono ?_; rintro ee w1 ⟨v1, L, rfl, hL, hP, hx1⟩; obtain ⟨pg, pcap, pA, pc, rfl, hlt, hcell⟩ := partsLive hL hP; have hX1 := hide (g.grown.trans hx1); clear hP hL; haveI : In pg w1 := ⟨hlt⟩)
    | (go_at_call 21; (with_reducible refine seq_gw (hck2.out _ _ _ (rwLive2 w1) (Sl.ext hs.out (hX1.out.alloc _))) ?_); intro g3)
    | (go_at_call 11; (with_reducible refine seq_gw (hfn.out _) ?_); intro g4)
    | (go_at_call 31; (with_reducible refine seq_gw (htk.out _) ?_); intro g5))
  go_returns
  exact ⟨by first | rfl | simp, ((((hX0.out.trans hX1.out).alloc _).trans g3.grown).trans g4.grown).trans g5.grown⟩
end Go.Proofs.Ytopgapbipmblbaa
