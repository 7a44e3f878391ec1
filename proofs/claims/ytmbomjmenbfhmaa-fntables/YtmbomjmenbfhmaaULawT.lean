/- The law on tables: whatever is drawn, it answers true. -/
import Derived.Test.YtmbomjmenbfhmaaUHas
import Derived.Deep.RegionHeld3
import Derived.Deep.Cut
import Derived.Deep.CutRange
namespace Go.Proofs.Ytmbomjmenbfhmaa
open Go.RowKit
set_option linter.unusedVariables false
set_option linter.unusedSimpArgs false

set_option maxRecDepth 16000 in
set_option maxHeartbeats 12000000 in
theorem law_tables (a : Option Addr) (len cap : Nat) (w : World) (hcr : CodeRow w a len) :
    Calls Try.prog 3 #[.slice a len cap] w fun e w' => e = .returned (.bool true) ∧ Below w.heap.size w w' := by
  have HCR := hid hcr
  clear hcr
  by_cases hbig : len ≤ 4096
  case neg =>
    go_enter Try.func3, Try.ntmps3
    go_wp2_with fail
    refine (cBig_yes a len cap _ hbig).mono ?_
    rintro e0 w' ⟨rfl, rfl⟩
    go_wp2_with fail
    go_ret
    exact ⟨rfl, Below.refl _ _⟩
  go_enter Try.func3, Try.ntmps3
  go_wp2_with fail
  refine (cBig_no a len cap _ hbig).mono ?_
  rintro e0 w' ⟨rfl, rfl⟩
  go_wp2_with fail
  refine (hDrawE a len cap _ hbig HCR.out).mono ?_
  rintro e w1 ⟨t, a3, c3, id, til, rfl, hro, hl, hz, hi, hb1⟩
  have HL := hid hl
  have HZ := hid hz
  have HI := hid hi
  have SM3 := hid (sm_of hl hz)
  have HA := hid ((Below.refl w1.heap.size w1).alloc (Nat.le_refl _) (.cells #[.int .i64 t.most, .slice a3 t.rows.length c3] 26))
  have HB := hid (bb hb1 HA.out)
  have H3 := hid (Has.new t a3 c3 hro)
  clear hro hl hz hi hb1 HA
  obtain ⟨W, hW⟩ : ∃ W, w1.alloc (.cells #[.int .i64 t.most, .slice a3 t.rows.length c3] 26) = W := ⟨_, rfl⟩
  obtain ⟨B3, hB⟩ : ∃ B, w1.heap.size = B := ⟨_, rfl⟩
  rw [hW] at HB H3
  rw [hB] at H3
  obtain ⟨y0, y1⟩ := And.intro H3.out.1.c0 H3.out.1.c1
  obtain ⟨⟨x, k⟩, hE⟩ : ∃ p, enteredT t id til = p := ⟨_, rfl⟩
  have HEL := hid (ent_law t id til)
  have SM6 := hid (sm_ent (til := til) HL.out HZ.out HI.out)
  rw [hE] at HEL SM6
  have HEN := hid hE
  clear hE
  simp only at HEL SM6
  go_wp2_with fail
  clear hW hB y0 y1
  refine (hEntI id til HI.out x k HEN.out H3.out SM3.out).mono ?_
  rintro e w2 ⟨a6, c6, rfl, hro, hb2⟩
  have HA := hid ((Below.refl w2.heap.size w2).alloc (Nat.le_refl _) (.cells #[.int .i64 x.most, .slice a6 x.rows.length c6] 26))
  have H6 := hid (Has.new x a6 c6 hro)
  replace H3 := hid (H3.out.below (bb hb2 HA.out))
  replace HB := hid (bb HB.out (bb hb2 HA.out))
  clear hro hb2 HA
  obtain ⟨W, hW⟩ : ∃ W, w2.alloc (.cells #[.int .i64 x.most, .slice a6 x.rows.length c6] 26) = W := ⟨_, rfl⟩
  obtain ⟨B6, hB⟩ : ∃ B, w2.heap.size = B := ⟨_, rfl⟩
  rw [hW] at HB H3 H6
  rw [hB] at H6
  go_wp2_with fail
  clear hW hB
  refine (hDrawR a len cap _ hbig (code_below HCR.out HB.out)).mono ?_
  rintro e w3 ⟨q, a8, c8, who, rfl, hro, hl, hz, hi, hb3⟩
  have SM8 := hid (sm_of hl hz)
  have SM10 := hid (sm_rem (id := who) hl hz)
  have HWI := hid hi
  have HA := hid ((Below.refl w3.heap.size w3).alloc (Nat.le_refl _) (.cells #[.int .i64 q.most, .slice a8 q.rows.length c8] 26))
  have H8 := hid (Has.new q a8 c8 hro)
  replace H3 := hid (H3.out.below (bb hb3 HA.out))
  replace H6 := hid (H6.out.below (bb hb3 HA.out))
  replace HB := hid (bb HB.out (bb hb3 HA.out))
  clear hro hb3 HA hl hz hi
  obtain ⟨W, hW⟩ : ∃ W, w3.alloc (.cells #[.int .i64 q.most, .slice a8 q.rows.length c8] 26) = W := ⟨_, rfl⟩
  obtain ⟨B8, hB⟩ : ∃ B, w3.heap.size = B := ⟨_, rfl⟩
  rw [hW] at HB H3 H6 H8
  rw [hB] at H8
  obtain ⟨y0, y1⟩ := And.intro H8.out.1.c0 H8.out.1.c1
  obtain ⟨⟨r, is⟩, hE⟩ : ∃ p, removedT q who = p := ⟨_, rfl⟩
  have HRI := hid (rem_is q who)
  have HRL := hid (rem_law (t := q) (id := who))
  rw [hE] at HRI HRL SM10
  have HRE := hid hE
  clear hE
  simp only at HRI HRL SM10
  go_wp2_with fail
  clear hW hB y0 y1
  refine (hRemI who r is HRE.out H8.out SM8.out).mono ?_
  rintro e w4 ⟨a10, c10, rfl, hro, hb4⟩
  have HA := hid ((Below.refl w4.heap.size w4).alloc (Nat.le_refl _) (.cells #[.int .i64 r.most, .slice a10 r.rows.length c10] 26))
  have H10 := hid (Has.new r a10 c10 hro)
  replace H3 := hid (H3.out.below (bb hb4 HA.out))
  replace H6 := hid (H6.out.below (bb hb4 HA.out))
  replace H8 := hid (H8.out.below (bb hb4 HA.out))
  replace HB := hid (bb HB.out (bb hb4 HA.out))
  clear hro hb4 HA
  obtain ⟨W, hW⟩ : ∃ W, w4.alloc (.cells #[.int .i64 r.most, .slice a10 r.rows.length c10] 26) = W := ⟨_, rfl⟩
  obtain ⟨B10, hB⟩ : ∃ B, w4.heap.size = B := ⟨_, rfl⟩
  rw [hW] at HB H3 H6 H8 H10
  rw [hB] at H10
  go_wp2_with fail
  clear hW hB
  refine (cDrawNewTable a len cap _ hbig (code_below HCR.out HB.out)).mono ?_
  rintro e w5 ⟨n, rfl, hb5⟩
  replace H3 := hid (H3.out.below hb5)
  replace H6 := hid (H6.out.below hb5)
  replace H8 := hid (H8.out.below hb5)
  replace H10 := hid (H10.out.below hb5)
  replace HB := hid (bb HB.out hb5)
  clear hb5
  obtain ⟨⟨z, made⟩, hE⟩ : ∃ p, newT n = p := ⟨_, rfl⟩
  have SM13 := hid (sm_new n)
  have HNL := hid (new_law n)
  rw [hE] at SM13 HNL
  have HNE := hid hE
  clear hE
  simp only at SM13 HNL
  go_wp2_with fail
  refine (hNewI n z made HNE.out _).mono ?_
  rintro e w6 ⟨a13, c13, rfl, hro, hb6⟩
  have HA := hid ((Below.refl w6.heap.size w6).alloc (Nat.le_refl _) (.cells #[.int .i64 z.most, .slice a13 z.rows.length c13] 26))
  have H13 := hid (Has.new z a13 c13 hro)
  replace H3 := hid (H3.out.below (bb hb6 HA.out))
  replace H6 := hid (H6.out.below (bb hb6 HA.out))
  replace H8 := hid (H8.out.below (bb hb6 HA.out))
  replace H10 := hid (H10.out.below (bb hb6 HA.out))
  replace HB := hid (bb HB.out (bb hb6 HA.out))
  clear hro hb6 HA
  obtain ⟨W, hW⟩ : ∃ W, w6.alloc (.cells #[.int .i64 z.most, .slice a13 z.rows.length c13] 26) = W := ⟨_, rfl⟩
  obtain ⟨B13, hB⟩ : ∃ B, w6.heap.size = B := ⟨_, rfl⟩
  rw [hW] at HB H3 H6 H8 H10 H13
  rw [hB] at H13
  obtain ⟨y0, y1⟩ := And.intro H3.out.1.c0 H3.out.1.c1
  go_wp2_with fail
  clear hW hB y0 y1
  refine (hEntS id til HI.out x k HEN.out H3.out SM3.out).mono ?_
  rintro e w7 ⟨a15, c15, rfl, hro, hb7⟩
  have HA := hid ((Below.refl w7.heap.size w7).alloc (Nat.le_refl _) (.cells #[.int .i64 x.most, .slice a15 x.rows.length c15] 26))
  have H15 := hid (Has.new x a15 c15 hro)
  replace H3 := hid (H3.out.below (bb hb7 HA.out))
  replace H6 := hid (H6.out.below (bb hb7 HA.out))
  replace H8 := hid (H8.out.below (bb hb7 HA.out))
  replace H10 := hid (H10.out.below (bb hb7 HA.out))
  replace H13 := hid (H13.out.below (bb hb7 HA.out))
  replace HB := hid (bb HB.out (bb hb7 HA.out))
  clear hro hb7 HA
  obtain ⟨w8, hW⟩ : ∃ W, w7.alloc (.cells #[.int .i64 x.most, .slice a15 x.rows.length c15] 26) = W := ⟨_, rfl⟩
  obtain ⟨B15, hB⟩ : ∃ B, w7.heap.size = B := ⟨_, rfl⟩
  rw [hW] at HB H3 H6 H8 H10 H13 H15
  rw [hB] at H15
  go_wp2_with fail
  clear hW hB
  have e1 : (k != k) = false := by simp
  have e2 : (tableB t != tableB t) = false := by simp
  have e3 : (holdsT t id != holdsT t id) = false := by simp
  have HBc := hid ((Below.refl w8.heap.size w8).drew)
  have HSX := hid (show ∀ W', Below w8.heap.size w8 W' → W'.cell? ⟨B3, 0, none⟩ = some (.int .i64 t.most) ∧ W'.cell? ⟨B3, 1, none⟩ = some (.slice a3 t.rows.length c3) ∧ W'.cell? ⟨B6, 0, none⟩ = some (.int .i64 x.most) ∧ W'.cell? ⟨B6, 1, none⟩ = some (.slice a6 x.rows.length c6) ∧ W'.cell? ⟨B15, 0, none⟩ = some (.int .i64 x.most) ∧ W'.cell? ⟨B15, 1, none⟩ = some (.slice a15 x.rows.length c15) from fun W' hb => ⟨(H3.out.below hb).1.c0, (H3.out.below hb).1.c1, (H6.out.below hb).1.c0, (H6.out.below hb).1.c1, (H15.out.below hb).1.c0, (H15.out.below hb).1.c1⟩)
  go_region_held3 (fun w' => w'.cell? ⟨B3, 0, none⟩ = some (.int .i64 t.most) ∧ w'.cell? ⟨B3, 1, none⟩ = some (.slice a3 t.rows.length c3) ∧ w'.cell? ⟨B6, 0, none⟩ = some (.int .i64 x.most) ∧ w'.cell? ⟨B6, 1, none⟩ = some (.slice a6 x.rows.length c6) ∧ w'.cell? ⟨B15, 0, none⟩ = some (.int .i64 x.most) ∧ w'.cell? ⟨B15, 1, none⟩ = some (.slice a15 x.rows.length c15)) (exact HSX.out _ HBc.out)
    (first
      | (go_at_call 17; refine (hLike (H6.out.below HBc.out) (H15.out.below HBc.out) SM6.out).mono ?_; rintro e w9 ⟨rfl, hb9⟩; replace HBc := hid (bb HBc.out hb9); clear hb9)
      | (go_at_call 18; refine (hOkI (H3.out.below HBc.out) SM3.out).mono ?_; rintro e w9 ⟨rfl, hb9⟩; replace HBc := hid (bb HBc.out hb9); clear hb9)
      | (go_at_call 19; refine (hOkS (H3.out.below HBc.out) SM3.out).mono ?_; rintro e w9 ⟨rfl, hb9⟩; replace HBc := hid (bb HBc.out hb9); clear hb9)
      | (go_at_call 20; refine (hHoldI id (H3.out.below HBc.out) SM3.out).mono ?_; rintro e w9 ⟨rfl, hb9⟩; replace HBc := hid (bb HBc.out hb9); clear hb9)
      | (go_at_call 21; refine (hHoldS id HI.out (H3.out.below HBc.out) SM3.out).mono ?_; rintro e w9 ⟨rfl, hb9⟩; replace HBc := hid (bb HBc.out hb9); clear hb9))
  replace H3 := hid (H3.out.below HBc.out)
  replace H6 := hid (H6.out.below HBc.out)
  replace H8 := hid (H8.out.below HBc.out)
  replace H10 := hid (H10.out.below HBc.out)
  replace H13 := hid (H13.out.below HBc.out)
  replace H15 := hid (H15.out.below HBc.out)
  replace HB := hid (bb HB.out HBc.out)
  clear HSX HBc e1 e2 e3
  obtain ⟨y0, y1⟩ := And.intro H8.out.1.c0 H8.out.1.c1
  go_wp2_with fail
  clear y0 y1
  refine (hRemS who HWI.out r is HRE.out H8.out SM8.out).mono ?_
  rintro e w10 ⟨a17, c17, rfl, hro, hb⟩
  have HA := hid ((Below.refl w10.heap.size w10).alloc (Nat.le_refl _) (.cells #[.int .i64 r.most, .slice a17 r.rows.length c17] 26))
  have H17 := hid (Has.new r a17 c17 hro)
  replace H3 := hid (H3.out.below (bb hb HA.out))
  replace H6 := hid (H6.out.below (bb hb HA.out))
  replace H8 := hid (H8.out.below (bb hb HA.out))
  replace H10 := hid (H10.out.below (bb hb HA.out))
  replace H13 := hid (H13.out.below (bb hb HA.out))
  replace H15 := hid (H15.out.below (bb hb HA.out))
  replace HB := hid (bb HB.out (bb hb HA.out))
  clear hro hb HA
  obtain ⟨W17, hW⟩ : ∃ W, w10.alloc (.cells #[.int .i64 r.most, .slice a17 r.rows.length c17] 26) = W := ⟨_, rfl⟩
  obtain ⟨B17, hB⟩ : ∃ B, w10.heap.size = B := ⟨_, rfl⟩
  rw [hW] at HB H3 H6 H8 H10 H13 H15 H17
  rw [hB] at H17
  obtain ⟨y0, y1⟩ := And.intro H10.out.1.c0 H10.out.1.c1
  obtain ⟨y0b, y1b⟩ := And.intro H17.out.1.c0 H17.out.1.c1
  have e1 : (is != is) = false := by simp
  go_wp2_with fail
  clear hW hB y0 y1 y0b y1b
  refine (hLike H10.out H17.out SM10.out).mono ?_
  rintro e w11 ⟨rfl, hb⟩
  replace H3 := hid (H3.out.below hb)
  replace H6 := hid (H6.out.below hb)
  replace H8 := hid (H8.out.below hb)
  replace H10 := hid (H10.out.below hb)
  replace H13 := hid (H13.out.below hb)
  replace H15 := hid (H15.out.below hb)
  replace H17 := hid (H17.out.below hb)
  replace HB := hid (bb HB.out hb)
  clear hb
  obtain ⟨y0, y1⟩ := And.intro H8.out.1.c0 H8.out.1.c1
  go_wp2_with fail
  clear y0 y1
  refine (hHoldI who H8.out SM8.out).mono ?_
  rintro e w12 ⟨rfl, hb⟩
  rw [← HRI.out]
  replace H3 := hid (H3.out.below hb)
  replace H6 := hid (H6.out.below hb)
  replace H8 := hid (H8.out.below hb)
  replace H10 := hid (H10.out.below hb)
  replace H13 := hid (H13.out.below hb)
  replace H15 := hid (H15.out.below hb)
  replace H17 := hid (H17.out.below hb)
  replace HB := hid (bb HB.out hb)
  clear hb
  go_wp2_with fail
  clear e1
  refine (hNewS n z made HNE.out _).mono ?_
  rintro e w13 ⟨a19, c19, rfl, hro, hb⟩
  have HA := hid ((Below.refl w13.heap.size w13).alloc (Nat.le_refl _) (.cells #[.int .i64 z.most, .slice a19 z.rows.length c19] 26))
  have H19 := hid (Has.new z a19 c19 hro)
  replace H3 := hid (H3.out.below (bb hb HA.out))
  replace H6 := hid (H6.out.below (bb hb HA.out))
  replace H8 := hid (H8.out.below (bb hb HA.out))
  replace H10 := hid (H10.out.below (bb hb HA.out))
  replace H13 := hid (H13.out.below (bb hb HA.out))
  replace H15 := hid (H15.out.below (bb hb HA.out))
  replace H17 := hid (H17.out.below (bb hb HA.out))
  replace HB := hid (bb HB.out (bb hb HA.out))
  clear hro hb HA
  obtain ⟨W19, hW⟩ : ∃ W, w13.alloc (.cells #[.int .i64 z.most, .slice a19 z.rows.length c19] 26) = W := ⟨_, rfl⟩
  obtain ⟨B19, hB⟩ : ∃ B, w13.heap.size = B := ⟨_, rfl⟩
  rw [hW] at HB H3 H6 H8 H10 H13 H15 H17 H19
  rw [hB] at H19
  go_upto_region 16 with fail
  clear hW hB
  go_cut [132] from 116 to 132 (fun v wv => v = .bool false ∧ Hid (Below w'.heap.size w' wv) ∧ Hid (Has wv B3 t a3 c3) ∧ Hid (Has wv B6 x a6 c6) ∧ Hid (Has wv B10 r a10 c10))
  case first =>
    cases made with
    | true =>
      skip
      obtain ⟨y0, y1⟩ := And.intro H13.out.1.c0 H13.out.1.c1
      obtain ⟨y0b, y1b⟩ := And.intro H19.out.1.c0 H19.out.1.c1
      go_wp2_with fail
      clear y0 y1 y0b y1b
      refine (hLike H13.out H19.out SM13.out).mono ?_
      rintro e w14 ⟨rfl, hb⟩
      replace H3 := hid (H3.out.below hb)
      replace H6 := hid (H6.out.below hb)
      replace H10 := hid (H10.out.below hb)
      replace H13 := hid (H13.out.below hb)
      replace HB := hid (bb HB.out hb)
      clear hb
      have hz1 := HNL.out (by first | rfl | trivial)
      obtain ⟨y0, y1⟩ := And.intro H13.out.1.c0 H13.out.1.c1
      go_wp2_with fail
      clear y0 y1
      refine (hOkI H13.out SM13.out).mono ?_
      rintro e w15 ⟨rfl, hb⟩
      rw [hz1]
      replace H3 := hid (H3.out.below hb)
      replace H6 := hid (H6.out.below hb)
      replace H10 := hid (H10.out.below hb)
      replace HB := hid (bb HB.out hb)
      clear hb hz1
      go_wp2_with fail
      go_meet
      exact ⟨rfl, HB.out, H3.out, H6.out, H10.out⟩
    | false =>
      skip
      obtain ⟨y0, y1⟩ := And.intro H13.out.1.c0 H13.out.1.c1
      obtain ⟨y0b, y1b⟩ := And.intro H19.out.1.c0 H19.out.1.c1
      go_wp2_with fail
      clear y0 y1 y0b y1b
      refine (hLike H13.out H19.out SM13.out).mono ?_
      rintro e w14 ⟨rfl, hb⟩
      replace H3 := hid (H3.out.below hb)
      replace H6 := hid (H6.out.below hb)
      replace H10 := hid (H10.out.below hb)
      replace H13 := hid (H13.out.below hb)
      replace HB := hid (bb HB.out hb)
      clear hb
      go_wp2_with fail
      go_meet
      exact ⟨rfl, HB.out, H3.out, H6.out, H10.out⟩
  case rest =>
    obtain ⟨rfl, HB9, H39, H69, H109⟩ := hcut
    clear HB H3 H6 H8 H10 H13 H15 H17 H19 HNL HNE SM13 SM8
    have HB := hid HB9.out
    have H3 := hid H39.out
    have H6 := hid H69.out
    have H10 := hid H109.out
    clear HB9 H39 H69 H109
    go_upto_region 18 with fail
    go_cut [143] from 133 to 143 (fun v wv => v = .bool false ∧ Hid (Below w'.heap.size w' wv) ∧ Hid (Has wv B3 t a3 c3) ∧ Hid (Has wv B6 x a6 c6))
    case first =>
      cases is with
      | true =>
        obtain ⟨hr1, hr2⟩ := HRL.out rfl
        obtain ⟨y0, y1⟩ := And.intro H10.out.1.c0 H10.out.1.c1
        go_wp2_with fail
        clear y0 y1
        refine (hHoldI who H10.out SM10.out).mono ?_
        rintro e w16 ⟨rfl, hb⟩
        rw [hr1]
        replace H3 := hid (H3.out.below hb)
        replace H6 := hid (H6.out.below hb)
        replace H10 := hid (H10.out.below hb)
        replace HB := hid (bb HB.out hb)
        clear hb
        obtain ⟨y0, y1⟩ := And.intro H10.out.1.c0 H10.out.1.c1
        go_wp2_with fail
        clear y0 y1
        refine (hOkI H10.out SM10.out).mono ?_
        rintro e w17 ⟨rfl, hb⟩
        rw [hr2]
        replace H3 := hid (H3.out.below hb)
        replace H6 := hid (H6.out.below hb)
        replace H10 := hid (H10.out.below hb)
        replace HB := hid (bb HB.out hb)
        clear hb
        go_wp2_with fail
        go_meet
        exact ⟨rfl, HB.out, H3.out, H6.out⟩
      | false =>
        go_wp2_with fail
        go_meet
        exact ⟨rfl, HB.out, H3.out, H6.out⟩
    case rest =>
      obtain ⟨rfl, HB9, H39, H69⟩ := hcut
      clear HB H3 H6 H10 HRL HRI HRE SM10
      have HB := hid HB9.out
      have H3 := hid H39.out
      have H6 := hid H69.out
      clear HB9 H39 H69
      rcases HEL.out with ⟨rfl, hx⟩ | ⟨rfl, hx, hh⟩ | ⟨rfl, hx, hlm, hh⟩ | ⟨rfl, hx, hall, hh, hrm⟩
      · clear HEL HEN
        have HX := hid hx
        clear hx
        obtain ⟨y0, y1⟩ := And.intro H6.out.1.c0 H6.out.1.c1
        go_wp2_with fail
        refine (hLikeZ HX.out H6.out).mono ?_
        rintro e w18 ⟨rfl, hb⟩
        replace HB := hid (bb HB.out hb)
        clear hb y0 y1
        go_wp2_with fail
        go_ret
        exact ⟨rfl, HB.out⟩
      · clear HEL HEN
        subst hx
        obtain ⟨y0, y1⟩ := And.intro H6.out.1.c0 H6.out.1.c1
        obtain ⟨y0b, y1b⟩ := And.intro H3.out.1.c0 H3.out.1.c1
        go_wp2_with fail
        clear y0 y1 y0b y1b
        refine (hLike H6.out H3.out SM6.out).mono ?_
        rintro e w18 ⟨rfl, hb⟩
        replace H3 := hid (H3.out.below hb)
        replace H6 := hid (H6.out.below hb)
        replace HB := hid (bb HB.out hb)
        clear hb
        obtain ⟨y0, y1⟩ := And.intro H3.out.1.c0 H3.out.1.c1
        go_wp2_with fail
        clear y0 y1
        refine (hHoldI id H3.out SM3.out).mono ?_
        rintro e w19 ⟨rfl, hb⟩
        rw [hh]
        replace HB := hid (bb HB.out hb)
        clear hb
        go_wp2_with fail
        go_ret
        exact ⟨rfl, HB.out⟩
      · clear HEL HEN
        subst hx
        obtain ⟨y0, y1⟩ := And.intro H6.out.1.c0 H6.out.1.c1
        obtain ⟨y0b, y1b⟩ := And.intro H3.out.1.c0 H3.out.1.c1
        go_wp2_with fail
        clear y0 y1 y0b y1b
        refine (hLike H6.out H3.out SM6.out).mono ?_
        rintro e w18 ⟨rfl, hb⟩
        replace H3 := hid (H3.out.below hb)
        replace H6 := hid (H6.out.below hb)
        replace HB := hid (bb HB.out hb)
        clear hb
        obtain ⟨y0, y1⟩ := And.intro H3.out.1.c0 H3.out.1.c1
        have hlm' : ((x.rows.length : Int) == x.most) = true := by rw [hlm]; simp
        clear hlm
        go_wp2_with fail
        clear y0 y1
        refine (hHoldI id H3.out SM3.out).mono ?_
        rintro e w19 ⟨rfl, hb⟩
        rw [hh]
        replace HB := hid (bb HB.out hb)
        clear hb
        go_wp2_with fail
        go_ret
        exact ⟨rfl, HB.out⟩
      · clear HEL HEN
        have HALL := hid hall
        have HX := hid hx
        have HH := hid hh
        have HRM := hid hrm
        clear hall hx hh hrm
        go_wp2_with fail
        go_loopw [21] (fun v wr => ∃ i : Nat, v = .int .i64 (i : Int) ∧ i ≤ t.rows.length ∧ Hid (Below w'.heap.size w' wr) ∧ Hid (Has wr B3 t a3 c3) ∧ Hid (Has wr B6 x a6 c6)) (fun v _ => t.rows.length - (intOf v).toNat)
        case atStart => exact ⟨0, rfl, Nat.zero_le _, HB.out, H3.out, H6.out⟩
        case round =>
          clear H3 H6 HB
          obtain ⟨i, rfl, hi, HB, H3, H6⟩ := hrel
          obtain ⟨y0, y1⟩ := And.intro H3.out.1.c0 H3.out.1.c1
          have hl6 : t.rows.length ≤ 6 := HL.out
          by_cases hlt : i < t.rows.length
          · have hin : (i : Int) < (t.rows.length : Int) := by omega
            obtain ⟨b, o, ha3, hb, q1, q2⟩ := H3.out.2 i hlt
            subst ha3
            have CI := hid (fun (wx : World) (h : Has wx B6 x a6 c6) => hHoldI t.rows[i].id h SM6.out)
            rw [HALL.out i hlt] at CI
            obtain ⟨s, hs⟩ : ∃ s, t.rows[i].id = s := ⟨_, rfl⟩
            rw [hs] at q1 CI
            clear hs q2
            go_wp2_with fail
            have HQ := hid (And.intro hb q1)
            have HBc := hid ((Below.refl wr.heap.size wr).drew)
            have HSX := hid (show ∀ W', Below wr.heap.size wr W' → W'.cell? ⟨B3, 1, none⟩ = some (.slice (some ⟨b, o, none⟩) t.rows.length c3) ∧ W'.cell? ⟨B6, 0, none⟩ = some (.int .i64 x.most) ∧ W'.cell? ⟨B6, 1, none⟩ = some (.slice a6 x.rows.length c6) ∧ W'.cell? ⟨b, o + i * 2, none⟩ = some (.string s) from fun W' hb' => ⟨(H3.out.below hb').1.c1, (H6.out.below hb').1.c0, (H6.out.below hb').1.c1, (hb'.cell (p := ⟨b, o + i * 2, none⟩) HQ.out.1).trans HQ.out.2⟩)
            clear hb q1 y0 y1
            go_region_held3 (fun w' => w'.cell? ⟨B3, 1, none⟩ = some (.slice (some ⟨b, o, none⟩) t.rows.length c3) ∧ w'.cell? ⟨B6, 0, none⟩ = some (.int .i64 x.most) ∧ w'.cell? ⟨B6, 1, none⟩ = some (.slice a6 x.rows.length c6) ∧ w'.cell? ⟨b, o + i * 2, none⟩ = some (.string s)) (exact HSX.out _ HBc.out)
              (first | (go_at_call 20; refine (CI.out _ (H6.out.below HBc.out)).mono ?_; rintro e w20 ⟨rfl, hb20⟩; replace HBc := hid (bb HBc.out hb20); clear hb20))
            go_wp2_with fail
            go_roundw
            case rel => exact ⟨i + 1, by go_num, by omega, bb HB.out HBc.out, H3.out.below HBc.out, H6.out.below HBc.out⟩
            case measure => simp [intOf]; omega
          · have hie : i = t.rows.length := by omega
            subst hie
            obtain ⟨y0b, y1b⟩ := And.intro H6.out.1.c0 H6.out.1.c1
            go_wp2_with fail
            clear y0 y1 y0b y1b
            refine (hRemI id t true HRM.out H6.out SM6.out).mono ?_
            rintro e w21 ⟨a22, c22, rfl, hro, hb⟩
            have HA := hid ((Below.refl w21.heap.size w21).alloc (Nat.le_refl _) (.cells #[.int .i64 t.most, .slice a22 t.rows.length c22] 26))
            have H22 := hid (Has.new t a22 c22 hro)
            replace H3 := hid (H3.out.below (bb hb HA.out))
            replace H6 := hid (H6.out.below (bb hb HA.out))
            replace HB := hid (bb HB.out (bb hb HA.out))
            clear hro hb HA
            obtain ⟨W22, hW⟩ : ∃ W, w21.alloc (.cells #[.int .i64 t.most, .slice a22 t.rows.length c22] 26) = W := ⟨_, rfl⟩
            obtain ⟨B22, hB⟩ : ∃ B, w21.heap.size = B := ⟨_, rfl⟩
            rw [hW] at HB H3 H6 H22
            rw [hB] at H22
            obtain ⟨y0, y1⟩ := And.intro H6.out.1.c0 H6.out.1.c1
            go_wp2_with fail
            clear hW hB y0 y1
            refine (hOkI H6.out SM6.out).mono ?_
            rintro e w22 ⟨rfl, hb⟩
            rw [HX.out]
            replace H3 := hid (H3.out.below hb)
            replace H6 := hid (H6.out.below hb)
            replace H22 := hid (H22.out.below hb)
            replace HB := hid (bb HB.out hb)
            clear hb
            obtain ⟨y0, y1⟩ := And.intro H6.out.1.c0 H6.out.1.c1
            go_wp2_with fail
            clear y0 y1
            refine (hHoldI id H6.out SM6.out).mono ?_
            rintro e w23 ⟨rfl, hb⟩
            rw [HH.out]
            replace H3 := hid (H3.out.below hb)
            replace H6 := hid (H6.out.below hb)
            replace H22 := hid (H22.out.below hb)
            replace HB := hid (bb HB.out hb)
            clear hb
            obtain ⟨y0, y1⟩ := And.intro H22.out.1.c0 H22.out.1.c1
            obtain ⟨y0b, y1b⟩ := And.intro H3.out.1.c0 H3.out.1.c1
            go_wp2_with fail
            clear y0 y1 y0b y1b
            refine (hLike H22.out H3.out SM3.out).mono ?_
            rintro e w24 ⟨rfl, hb⟩
            replace HB := hid (bb HB.out hb)
            clear hb
            go_wp2_with fail
            go_ret
            exact ⟨rfl, HB.out⟩

end Go.Proofs.Ytmbomjmenbfhmaa
