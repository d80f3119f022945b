/-
  A helper of ours: no claim of its own. Layer 7 (schema): columns as lists: names, the first column of a name, two of one name, what is a schema. No program in it.
-/
import Derived.Test.YtajelkkiijdegaaGreatPasC
import Derived.Test.YtajelkkiijdegaaGreatMem
set_option linter.unusedVariables false
set_option linter.unusedSimpArgs false
namespace Go.Proofs.YtajelkkiijdegaaGreat
open Go.RowKit
attribute [local go_sem] GW.cell GW.frozen In.eq_true In.le_true In.ne In.ne' In.ne_add In.ne_add' In.lt_add Upto.le_true Upto.le_add Upto.lt_add
section
variable {w : World} {base p : Nat} {sv : Value} {c ser : Int} {mb : Nat} {u : Value} {L : List Pb}
theorem pst_form (h : Pst w base p sv c ser mb u L) : (u = .slice none 0 0 ∧ L = []) ∨ ∃ g cap, u = .slice (some ⟨g, 0, none⟩) L.length cap ∧ L.length ≤ cap ∧ cap ≤ 9223372036854775807 := by
  rcases h.own.2 with ⟨h', h0⟩ | ⟨g, cap, cur, h', hb, hg, hnc, hcm, hcs, htake⟩
  · exact .inl ⟨h', List.eq_nil_of_length_eq_zero h0⟩
  · unfold maxLen at hcm
    exact .inr ⟨g, cap, h', hnc, by omega⟩
/-- A past whose row was written, and then itself. -/
theorem pst_turn (hP : Pst w base p sv c ser mb u L) {w1 w2 : World} (hX : Ext w w1) (hF : Fr u.ownBlock.toList w1 w2) {u' : Value} {L' : List Pb} (hs : ∀ y ∈ L', Evb w y) (ho : w2.ownsRow base 103 1 u' L'.length (tg1 (blks L'))) :
    Pst (w2.setCell ⟨p, 4, none⟩ u') base p sv c ser mb u' L' ∧ Fr (wrt p u) w (w2.setCell ⟨p, 4, none⟩ u') := by
  have hF1 : Fr u.ownBlock.toList w w2 := (Fr.of_ext hX).trans hF
  have hF2 : Fr (wrt p u) w w2 := hF1.more fun b _ hb => List.mem_cons_of_mem _ hb
  have hob2 : Ob w2 p 93 [sv, .int .i64 c, .int .i64 ser, .map (some mb), u] := hP.ob.fr hF1 (by simpa using p_not_own hP)
  have hF3 : Fr (wrt p u) w (w2.setCell ⟨p, 4, none⟩ u') := hF2.setCell _ _ (.inl (by simp))
  exact ⟨⟨hob2.set 4 _, pmown_far ho 4 u' (Ob.not_own hob2 ho (by decide)), fun y hy => evb_fr (hs y hy) hP hF3 fun _ h => h⟩, hF3⟩
set_option maxHeartbeats 4000000 in
set_option maxRecDepth 100000 in
theorem pleave_c (a r : List Pb) (x : Pb) (hLe : L = a ++ x :: r) (w : World) (hP : Pst w base p sv c ser mb u L) (hs : Srt L) (hL : L.length ≤ 8192) :
    Calls Tryz.prog 94 #[.pointer (some ⟨p, 4, none⟩), pp x.2.1] w fun e w' => e = .returned (.tuple #[]) ∧ ∃ u', Pst w' base p sv c ser mb u' (a ++ r) ∧ Fr (wrt p u) w w' ∧ u'.ownBlock = u.ownBlock := by
  subst hLe
  have hx : Evb w x := hP.evs x (by simp)
  have hpl := hide (pplace_c x w hP hs hx (by omega))
  rw [pl_at hs] at hpl
  rcases pst_form hP with ⟨-, h0⟩ | ⟨g, cap, rfl, hc1, hc2⟩
  · simp at h0
  have hlen : (a ++ x :: r).length = (blks (a ++ x :: r)).length := (blks_len _).symm
  have hown := hP.own
  have hd := hide (fun (w1 : World) (hX : Ext w w1) => pdel1_c base g cap a.length (blks (a ++ x :: r)) w1 (by rw [← hlen]; exact own_ext hown hX) (by rw [← hlen]; simp) (by rw [← hlen]; omega))
  have hbl : (blks (a ++ x :: r)).take a.length ++ (blks (a ++ x :: r)).drop (a.length + 1) = blks (a ++ r) := by
    rw [← blks_take, ← blks_drop, List.take_left, show a ++ x :: r = (a ++ [x]) ++ r by simp, show a.length + 1 = (a ++ [x]).length by simp, List.drop_left, blks_app]
  rw [hbl, ← hlen, show (a ++ x :: r).length - 1 = (a ++ r).length by simp] at hd
  have hturn := hide (fun w1 w2 u' (hX : Ext w w1) (hF : Fr [g] w1 w2) (ho : w2.ownsRow base 103 1 u' (a ++ r).length (tg1 (blks (a ++ r)))) => pst_turn hP (w1 := w1) (w2 := w2) hX (show Fr (Value.slice (some ⟨g, 0, none⟩) (a ++ x :: r).length cap).ownBlock.toList w1 w2 from hF) (fun y hy => hP.evs y (by
    rcases List.mem_append.1 hy with h | h
    · exact List.mem_append_left _ h
    · exact List.mem_append_right _ (List.mem_cons_of_mem _ h))) ho)
  have c4 := hP.ob.cell 4 rfl
  have hPh := hide hP
  haveI : In p w := ⟨hP.ob.lt⟩
  have hal : a.length < (a ++ x :: r).length := by simp
  have halI : (a.length : Int) + 1 ≤ 9000 := by omega
  generalize a.length = N at *
  generalize hM : (a ++ x :: r).length = M at *
  replace hM := hide hM
  generalize hM2 : (a ++ r).length = M2 at *
  replace hM2 := hide hM2
  clear hP hown hlen hx hs hbl
  go_enter Tryz.func94, Tryz.ntmps94
  go_wp2_with (first
    | (go_at_call 152; (with_reducible refine seq_gw hpl.out ?_); intro g1)
    | (go_at_call 148; refine (hd.out _ g1.grown).mono ?_; rintro ee w2 ⟨rfl, ho2, hF2⟩; have hres := hide (hturn.out _ _ _ g1.grown hF2 ho2); have pf := hide (hPh.out.ob.fr ((Fr.of_ext g1.grown).trans hF2) (by simp only [List.mem_singleton]; intro e; exact p_not_own hPh.out (by rw [e]; rfl))); have q4 := pf.out.cell 4 rfl; have qf := pf.out.free 4; haveI : In p w2 := ⟨pf.out.lt⟩))
  go_end0
  exact ⟨rfl, _, hres.out.1, hres.out.2, rfl⟩
set_option maxHeartbeats 4000000 in
set_option maxRecDepth 100000 in
theorem pcut_c (t : Int) (w : World) (hP : Pst w base p sv c ser mb u L) (hs : Srt L) (hL : L.length ≤ 8192) :
    Calls Tryz.prog 90 #[.pointer (some ⟨p, 4, none⟩), .int .i64 t] w fun e w' => ∃ vo u' n, e = .returned vo ∧ n = ldN (fun y => decide (pTo y ≤ t)) L ∧ w'.ownsRow w.heap.size 103 1 vo (L.take n).length (tg1 (blks (L.take n))) ∧ Pst w' base p sv c ser mb u' (L.drop n) ∧ Fr (wrt p u) w w' ∧ u'.ownBlock = u.ownBlock := by
  obtain ⟨W1, hW1⟩ : ∃ W1, W1 = w.alloc (.cells #[.int .i64 t] 3) := ⟨_, rfl⟩
  have hX1 : Ext w W1 := by rw [hW1]; exact (Ext.refl w).alloc _
  have hB : Ob W1 w.heap.size 3 [.int .i64 t] := by rw [hW1]; exact Ob.new w _ [_]
  have hfe : (fun y : Pb => !(decide (t < pTo y))) = fun y => decide (pTo y ≤ t) := by
    funext y
    by_cases h : t < pTo y
    · rw [decide_eq_true h, decide_eq_false (by omega)]; rfl
    · rw [decide_eq_false h, decide_eq_true (by omega)]; rfl
  have ha := hide (pahead_c 146 #[.pointer (some ⟨w.heap.size, 0, none⟩)] (fun y => decide (t < pTo y)) (enters_of Tryz.func146 (by kernel_rfl) rfl) (by rw [hfe]; exact srt_downT hs t) W1 (hP.ext hX1)
    (fun w' hX y hy => pcut1_c t y w.heap.size w' ((hP.evs y hy).ext (hX1.trans hX)) (hB.ext hX)) (by omega))
  rw [hfe] at ha
  obtain ⟨n, hn⟩ : ∃ n, n = ldN (fun y => decide (pTo y ≤ t)) L := ⟨_, rfl⟩
  have hnl : n ≤ L.length := by rw [hn]; exact ld_le _ _
  rw [← hn] at ha
  have c4 := hP.ob.cell 4 rfl
  have hPh := hide hP
  haveI : In p w := ⟨hP.ob.lt⟩
  have hX1h := hide hX1
  have hW1h := hide hW1
  have hnh := hide hn
  clear hB hs hn hX1 hW1
  have hturn := hide (fun w1 w2 u' (hX : Ext w w1) (hF : Fr u.ownBlock.toList w1 w2) (ho : w2.ownsRow base 103 1 u' (L.drop n).length (tg1 (blks (L.drop n)))) => pst_turn hP (w1 := w1) (w2 := w2) hX hF (fun y hy => hP.evs y (List.mem_of_mem_drop hy)) ho)
  rcases pst_form hP with ⟨rfl, rfl⟩ | ⟨g, cap, rfl, hc1, hc2⟩
  · have hn0 : n = 0 := by simpa using hnl
    subst hn0
    have hcl := hide (fun w' => pclone_c [] (.slice none 0 0) w' (Sl.nil _ _ _) (by simp))
    have hde := hide (fun w' => pdel0_c none 0 0 (Nat.le_refl _) (fun _ => ⟨rfl, rfl⟩) w')
    clear hP
    go_enter Tryz.func90, Tryz.ntmps90
    go_wp2_with fail
    rw [← hW1h.out]
    refine seq_gw ha.out ?_
    intro g1
    have p4 := pcell_later (hX1h.out.trans g1.grown) c4
    go_wp2_with (go_at_call 147; refine (hcl.out _).mono ?_; rintro ee w2 ⟨vo, rfl, ho2, hX2⟩; have p5 := pcell_later hX2 p4; obtain ⟨A2, cap2, hu2⟩ := own_form ho2; subst hu2; replace ho2 := hide ho2; replace hX2 := hide hX2)
    refine (hde.out _).mono ?_
    rintro ee w3 ⟨rfl, hX3⟩
    have hX4 := ((hX1h.out.trans g1.grown).trans hX2.out).trans hX3
    have hres := hide (hturn.out _ _ (.slice none 0 0) hX4 (Fr.refl _ _) (World.ownsRow_nil _ _ _ _))
    have pf := hide (hPh.out.ob.ext hX4)
    have q4 := pf.out.cell 4 rfl
    have qf := pf.out.free 4
    haveI : In p w3 := ⟨pf.out.lt⟩
    have ho3 := hide (own_ext ho2.out hX3)
    have hbs := hide ((hX1h.out.trans g1.grown).size)
    go_wp2_with fail
    go_returns
    refine ⟨_, _, 0, rfl, hnh.out, pmown_far (own_base ho3.out hbs.out) 4 _ (Ob.not_own pf.out ho3.out (by decide)), hres.out.1, hres.out.2, rfl⟩
  · have hlen2 : (blks (L.take n)).length = n := by rw [blks_len, List.length_take]; omega
    have hlt2 : (L.take n).length = n := by rw [List.length_take]; omega
    have hld2 : (L.drop n).length = L.length - n := by rw [List.length_drop]
    have hown := hP.own
    have htk : (tg1 (blks L)).take (n * 1) = tg1 (blks (L.take n)) := by rw [Nat.mul_one, tg1_take, blks_take]
    have hcl := hide (fun w1 (hX : Ext w w1) => pclone_c (blks (L.take n)) (.slice (some ⟨g, 0, none⟩) n cap) w1 (by
      have h1 := pmown_take (own_ext hown hX) (i := n) hnl
      rw [htk] at h1
      rw [hlen2]
      exact Sl.own h1 (by simp)) (by rw [hlen2]; omega))
    rw [hlen2] at hcl
    rw [hld2] at hturn
    have hncap : n ≤ cap := by omega
    have hPc := hide hP
    clear hP
    by_cases h0 : n = 0
    · subst h0
      have hde := hide (fun w' => pdel0_c (some ⟨g, 0, none⟩) L.length cap hc1 (fun h => by cases h) w')
      go_enter Tryz.func90, Tryz.ntmps90
      go_wp2_with fail
      rw [← hW1h.out]
      refine seq_gw ha.out ?_
      intro g1
      have hX5 := hide (hX1h.out.trans g1.grown)
      have p4 := pcell_later hX5.out c4
      haveI : In p g1.val := ⟨block_lt_of_cell p4⟩
      go_wp2_with fail
      refine (hcl.out _ hX5.out).mono ?_
      rintro ee w2 ⟨vo, rfl, ho2, hX2⟩
      have p5 := pcell_later hX2 p4
      obtain ⟨A2, cap2, hu2⟩ := own_form ho2
      subst hu2
      replace ho2 := hide ho2
      replace hX2 := hide hX2
      go_wp2_with fail
      refine (hde.out _).mono ?_
      rintro ee w3 ⟨rfl, hX3⟩
      have hX4 := (hX5.out.trans hX2.out).trans hX3
      have hres := hide (hturn.out _ _ (.slice (some ⟨g, 0, none⟩) L.length cap) hX4 (Fr.refl _ _) (by rw [List.drop_zero, Nat.sub_zero]; exact own_ext hown hX4))
      have pf := hide (hPh.out.ob.ext hX4)
      have q4 := pf.out.cell 4 rfl
      have qf := pf.out.free 4
      haveI : In p w3 := ⟨pf.out.lt⟩
      have ho3 := hide (own_ext ho2.out hX3)
      have hbs := hide hX5.out.size
      clear hown htk
      go_wp2_with fail
      go_returns
      refine ⟨_, _, 0, rfl, hnh.out, ?_, hres.out.1, hres.out.2, rfl⟩
      rw [hlt2]
      exact pmown_far (own_base ho3.out hbs.out) 4 _ (Ob.not_own pf.out ho3.out (by decide))
    · have hde := hide (fun (w1 : World) (hX : Ext w w1) => pdelA_c base g cap n (blks L) w1 (by rw [blks_len]; exact own_ext hown hX) (by omega) (by rw [blks_len]; exact hnl) (by rw [blks_len]; omega))
      rw [← blks_drop, blks_len] at hde
      have hnI : (n : Int) ≤ L.length := by omega
      go_enter Tryz.func90, Tryz.ntmps90
      go_wp2_with fail
      rw [← hW1h.out]
      refine seq_gw ha.out ?_
      intro g1
      have hX5 := hide (hX1h.out.trans g1.grown)
      have p4 := pcell_later hX5.out c4
      haveI : In p g1.val := ⟨block_lt_of_cell p4⟩
      go_wp2_with fail
      refine (hcl.out _ hX5.out).mono ?_
      rintro ee w2 ⟨vo, rfl, ho2, hX2⟩
      have p5 := pcell_later hX2 p4
      obtain ⟨A2, cap2, hu2⟩ := own_form ho2
      subst hu2
      replace ho2 := hide ho2
      replace hX2 := hide hX2
      go_wp2_with fail
      refine (hde.out _ (hX5.out.trans hX2.out)).mono ?_
      rintro ee w3 ⟨rfl, ho6, hF6⟩
      have hX4 := hX5.out.trans hX2.out
      have hres := hide (hturn.out _ _ _ hX4 hF6 ho6)
      have hgp : p ≠ g := fun e => p_not_own hPh.out (by rw [e]; rfl)
      have pf := hide (hPh.out.ob.fr ((Fr.of_ext hX4).trans hF6) (by simpa using hgp))
      have q4 := pf.out.cell 4 rfl
      have qf := pf.out.free 4
      haveI : In p w3 := ⟨pf.out.lt⟩
      have hgw : g < w.heap.size := (hown.lt g rfl).2
      have hbs := hide hX5.out.size
      have ho3 := hide (powns_fr ho2.out hF6 (fun x hx => by
        have := (ho2.out.lt x hx).1
        have := hbs.out
        simp; omega))
      clear hown htk
      go_wp2_with fail
      go_returns
      refine ⟨_, _, n, rfl, hnh.out, ?_, hres.out.1, hres.out.2, rfl⟩
      rw [hlt2]
      exact pmown_far (own_base ho3.out hbs.out) 4 _ (Ob.not_own pf.out ho3.out (by decide))
end
end Go.Proofs.YtajelkkiijdegaaGreat
set_option linter.unusedVariables false
set_option linter.unusedSimpArgs false
namespace Go.Proofs.YtajelkkiijdegaaGreat
open Go.RowKit
/-- A column: its name, and its kind. -/
abbrev Cl := ByteArray × Int
def letB (c : UInt8) : Bool := decide (97 ≤ c.toNat ∧ c.toNat ≤ 122)
def digB (c : UInt8) : Bool := decide (48 ≤ c.toNat ∧ c.toNat ≤ 57)
/-- The words that stand for something else. -/
def opB (s : ByteArray) : Bool := decide (s.data.toList ∈ [[97, 110, 100], [111, 114], [110, 111, 116], [108, 101, 110]])
def nameB (s : ByteArray) : Bool := decide (s.size ≠ 0 ∧ s.size ≤ 16) && ((s.data.toList.head?.any letB) && ((s.data.toList.all fun c => letB c || digB c) && !opB s))
def okC (c : Cl) : Bool := decide (c.2 = 1 ∨ c.2 = 2) && nameB c.1
/-- The first column with a name, or -1, counted from i on. -/
def ixFrom (n : ByteArray) : List Cl → Int → Int
  | [], _ => -1
  | c :: r, i => if c.1 = n then i else ixFrom n r (i + 1)
def ixC (l : List Cl) (n : ByteArray) : Int := ixFrom n l 0
theorem ixFrom_none (n : ByteArray) : ∀ (l : List Cl) (i : Int), (∀ c ∈ l, c.1 ≠ n) → ixFrom n l i = -1
  | [], _, _ => rfl
  | c :: r, i, h => by
    unfold ixFrom
    rw [if_neg (h c (by simp))]
    exact ixFrom_none n r (i + 1) fun d hd => h d (by simp [hd])
theorem ixFrom_at (n : ByteArray) : ∀ (l : List Cl) (i : Int) (k : Nat) (c : Cl), l[k]? = some c → c.1 = n → (∀ d ∈ l.take k, d.1 ≠ n) → ixFrom n l i = i + k
  | [], _, k, c, h, _, _ => by simp at h
  | d :: r, i, 0, c, h, e, _ => by
    obtain rfl : d = c := by simpa using h
    unfold ixFrom
    rw [if_pos e]
    omega
  | d :: r, i, k + 1, c, h, e, hb => by
    unfold ixFrom
    rw [if_neg (hb d (by simp))]
    have := ixFrom_at n r (i + 1) k c (by simpa using h) e fun x hx => hb x (by simp [hx])
    rw [this]
    omega
theorem ixC_none {l : List Cl} {n : ByteArray} (h : ∀ c ∈ l, c.1 ≠ n) : ixC l n = -1 := ixFrom_none n l 0 h
theorem ixC_at {l : List Cl} {n : ByteArray} {k : Nat} {c : Cl} (hk : l[k]? = some c) (e : c.1 = n) (hb : ∀ d ∈ l.take k, d.1 ≠ n) : ixC l n = k := by
  have := ixFrom_at n l 0 k c hk e hb
  unfold ixC
  omega
/-- A name that stands in a list is met at its first place, which is none behind. -/
theorem ixC_le {l : List Cl} {k : Nat} {c : Cl} (hk : l[k]? = some c) : ∃ j : Nat, ixC l c.1 = j ∧ j ≤ k ∧ ((∀ d ∈ l.take k, d.1 ≠ c.1) ↔ j = k) := by
  have key : ∀ m, m ≤ k → (∀ d ∈ l.take m, d.1 ≠ c.1) ∨ ∃ j, j < m ∧ ∃ d, l[j]? = some d ∧ d.1 = c.1 ∧ ∀ e ∈ l.take j, e.1 ≠ c.1 := by
    intro m
    induction m with
    | zero => intro _; left; intro d hd; simp at hd
    | succ m ih =>
      intro hm
      rcases ih (by omega) with h | ⟨j, hj, h⟩
      · have hlt : m < l.length := by
          have := (List.getElem?_eq_some_iff.1 hk).1
          omega
        obtain ⟨x, hx⟩ : ∃ x, l[m]? = some x := ⟨_, List.getElem?_eq_getElem hlt⟩
        by_cases e : x.1 = c.1
        · exact .inr ⟨m, by omega, x, hx, e, h⟩
        · left
          intro d hd
          rw [List.take_add_one, hx] at hd
          rcases List.mem_append.1 hd with hd | hd
          · exact h d hd
          · obtain rfl : d = x := by simpa using hd
            exact e
      · exact .inr ⟨j, by omega, h⟩
  rcases key k (Nat.le_refl k) with h | ⟨j, hj, d, hd, e, h⟩
  · exact ⟨k, ixC_at hk rfl h, Nat.le_refl k, ⟨fun _ => rfl, fun _ => h⟩⟩
  · refine ⟨j, ixC_at hd e h, by omega, ⟨fun hn => ?_, fun hjk => by omega⟩⟩
    have hdk : d ∈ l.take k := by
      have : (l.take k)[j]? = some d := by rw [List.getElem?_take, if_pos hj]; exact hd
      exact List.mem_of_getElem? this
    exact absurd e (hn d hdk)
/-- No two columns have one name, among the first k. -/
def Apart (l : List Cl) (k : Nat) : Prop := ∀ i, i < k → ∀ c, l[i]? = some c → ∀ d ∈ l.take i, d.1 ≠ c.1
theorem apart_zero (l : List Cl) : Apart l 0 := fun i hi => by omega
theorem apart_step {l : List Cl} {k : Nat} {c : Cl} (h : Apart l k) (hk : l[k]? = some c) (hc : ∀ d ∈ l.take k, d.1 ≠ c.1) : Apart l (k + 1) := by
  intro i hi x hx d hd
  by_cases e : i = k
  · subst e
    rw [hk] at hx
    obtain rfl := Option.some.inj hx
    exact hc d hd
  · exact h i (by omega) x hx d hd
theorem apart_not {l : List Cl} {k n : Nat} {c d : Cl} (hk : l[k]? = some c) (hn : k < n) (hd : d ∈ l.take k) (e : d.1 = c.1) : ¬ Apart l n := fun h => h k hn c hk d hd e
def apartK (l : List Cl) : Nat → Bool
  | 0 => true
  | k + 1 => apartK l k && (match l[k]? with | some c => (l.take k).all fun d => decide (d.1 ≠ c.1) | none => true)
theorem apartK_iff (l : List Cl) : ∀ k, apartK l k = true ↔ Apart l k
  | 0 => ⟨fun _ => apart_zero l, fun _ => rfl⟩
  | k + 1 => by
    unfold apartK
    rw [Bool.and_eq_true, apartK_iff l k]
    cases hk : l[k]? with
    | none =>
      constructor
      · rintro ⟨h, -⟩ i hi x hx d hd
        by_cases e : i = k
        · subst e; rw [hk] at hx; cases hx
        · exact h i (by omega) x hx d hd
      · intro h
        exact ⟨fun i hi => h i (by omega), rfl⟩
    | some c =>
      constructor
      · rintro ⟨h, hc⟩
        exact apart_step h hk fun d hd => by simpa using List.all_eq_true.1 hc d hd
      · intro h
        exact ⟨fun i hi => h i (by omega), by rw [List.all_eq_true]; intro d hd; simpa using h k (by omega) c hk d hd⟩
def apartB (l : List Cl) : Bool := apartK l l.length
/-- A schema. -/
def mayS (l : List Cl) : Bool := decide (1 ≤ l.length ∧ l.length ≤ 8) && (l.all okC && apartB l)
theorem apartB_true {l : List Cl} : apartB l = true ↔ Apart l l.length := apartK_iff l l.length
theorem mayS_iff {l : List Cl} : mayS l = true ↔ (1 ≤ l.length ∧ l.length ≤ 8) ∧ (∀ c ∈ l, okC c = true) ∧ Apart l l.length := by
  unfold mayS
  rw [Bool.and_eq_true, Bool.and_eq_true, decide_eq_true_iff, List.all_eq_true, apartB_true]
end Go.Proofs.YtajelkkiijdegaaGreat
