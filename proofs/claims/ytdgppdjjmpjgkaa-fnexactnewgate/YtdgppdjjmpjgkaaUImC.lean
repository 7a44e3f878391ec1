/- Contracts of the program's copiedRow, copiedRows, copiedTable. -/
import Derived.Test.YtdgppdjjmpjgkaaUImB
import Derived.Test.YtdgppdjjmpjgkaaUSpecB
namespace Go.Proofs.Ytdgppdjjmpjgkaa
open Go.RowKit
set_option linter.unusedVariables false
set_option linter.unusedSimpArgs false

set_option maxHeartbeats 2000000 in
theorem cCopiedRow (x : ByteArray) (y : Int) (w : World) (hx : x.size ≤ 1048576) :
    Calls Try.prog 78 #[.agg #[.string x, .int .i64 y]] w fun e w' => e = .returned (.agg #[.string x, .int .i64 y]) ∧ Below w.heap.size w w' := by
  have C := hid (fun wx => c_strings_Clone x wx hx)
  obtain ⟨b1, b2⟩ := u_heap2 w (.cells #[.string x, .int .i64 y] 74) (.cells #[.string ⟨#[]⟩, .int .i64 0] 74)
  have HB0 := hid (((Below.refl w.heap.size w).alloc (Nat.le_refl _) (.cells #[.string x, .int .i64 y] 74)).alloc (by simp) (.cells #[.string ⟨#[]⟩, .int .i64 0] 74))
  obtain ⟨W0, hW0⟩ : ∃ W0, ((w.alloc (.cells #[.string x, .int .i64 y] 74)).alloc (.cells #[.string ⟨#[]⟩, .int .i64 0] 74)) = W0 := ⟨_, rfl⟩
  rw [hW0] at b1 b2 HB0
  obtain ⟨B, hB⟩ : ∃ B, w.heap.size = B := ⟨_, rfl⟩
  rw [hB] at b1 b2
  have HM1 := hid b1
  have HM2 := hid b2
  clear b1 b2
  obtain ⟨⟨f0, f1⟩, f2, f3⟩ := u_box2f HM1.out
  obtain ⟨⟨k0, k1⟩, k2, k3⟩ := u_box2f HM2.out
  go_enter Try.func78, Try.ntmps78
  go_wp2_with fail
  have HBc := hid ((Below.refl W0.heap.size W0).drew)
  go_region_law (first
    | (go_simp; go_at_call 71; refine (C.out _).mono ?_; rintro e w6 ⟨rfl, hb6⟩; have HB6 := hid (HBc.out.trans hb6); obtain ⟨⟨r0, r1⟩, r2, r3⟩ := u_box2f (u_blk_below HM1.out HB6.out); obtain ⟨⟨s0, s1⟩, s2, s3⟩ := u_box2f (u_blk_below HM2.out HB6.out); clear hb6))
  all_goals
    have HD := hid ((show B + 1 < W0.heap.size from lt_of_heap HM2.out))
    have HW := hid ((HB0.out.trans (HB6.out.mono HB0.out.size)))
    go_wp2_with fail
    refine bodyPost_ret (v := .agg #[.string x, .int .i64 y]) (by simp [results, Try.results78, go_sem, r0, r1, s0, s1]) rfl ⟨rfl, ?_⟩
    iterate 2 refine Below.setCell ?_ (show w.heap.size ≤ B + 1 by omega) _
    exact HW.out

set_option maxRecDepth 8000 in
set_option maxHeartbeats 8000000 in
theorem cCopiedRows (a : Option Addr) (cap : Nat) (l : List Ro) (w : World) (hR : RoRow w a l) (hz : RoSz 1048576 l) (hn : l.length ≤ 100000) :
    Calls Try.prog 73 #[.slice a l.length cap] w fun e w' => ∃ v, e = .returned v ∧ w'.ownsRow w.heap.size 74 2 v l.length (roC l) ∧ Below w.heap.size w w' := by
  obtain ⟨i0, hi, hz0, hz1, hz2⟩ := info_parts infoRoW
  have HI := hid (And.intro hi (And.intro hz0 (And.intro hz1 hz2)))
  have HR := hid hR
  have HZ := hid hz
  clear hR hz hi hz0 hz1 hz2
  obtain ⟨n, hnn⟩ : ∃ n, l.length = n := ⟨_, rfl⟩
  have HN := hid hnn
  rw [hnn] at hn ⊢
  clear hnn
  go_enter Try.func73, Try.ntmps73
  go_wp2_with fail
  go_loopw [3, 8] (fun v k wr => ∃ i : Nat, k = .int .i64 (i : Int) ∧ i ≤ n ∧ Hid (wr.ownsRow w.heap.size 74 2 v i (roC (l.take i))) ∧ Hid (Below w.heap.size w wr)) (fun _ k _ => n - (intOf k).toNat)
  case atStart => exact ⟨0, rfl, Nat.zero_le _, World.ownsRow_nil _ _ _ _, Below.refl _ _⟩
  case round =>
    obtain ⟨i, rfl, hin, HO, HB⟩ := hrel
    by_cases hlt : i < n
    case neg =>
      have hie : i = n := by omega
      subst hie
      have HO2 := HO.out
      rw [List.take_of_length_le (by rw [HN.out]; exact Nat.le_refl _)] at HO2
      have HOA := hid HO2
      clear HO2 HO
      go_wp2_with fail
      go_ret
      exact ⟨_, rfl, HOA.out, HB.out⟩
    have his : i < l.length := by rw [HN.out]; exact hlt
    have hinn : (i : Int) < (n : Int) := by omega
    obtain ⟨b, o, rfl, hb, c1, c2⟩ := (HR.out.below HB.out) i his
    have HX := hid (show roC (l.take (i + 1)) = roC (l.take i) ++ roC [⟨l[i].id, l[i].til⟩] by rw [take_snocN his, roC_app])
    have C := hid (fun w => cCopiedRow l[i].id l[i].til w (HZ.out _ (List.getElem_mem his)))
    generalize l[i].id = x at *
    generalize l[i].til = y at *
    have HB0 := hid (HB.out.alloc HB.out.size (.cells #[.string x, .int .i64 y] 74))
    have HO0 := hid (HO.out.alloc (.cells #[.string x, .int .i64 y] 74))
    have hws := HB.out.size
    obtain ⟨a5, c5, hv5⟩ := u_own_len HO.out
    subst hv5
    clear HO
    go_wp2_with fail
    refine (C.out _).mono ?_
    rintro e w2 ⟨rfl, hb2⟩
    have HB2 := hid (bb HB0.out hb2)
    have HO2 := hid (ownsRow_below HO0.out hb2)
    have HB3 := hid ((Below.refl w2.heap.size w2).alloc (Nat.le_refl _) (.cells #[.string x, .int .i64 y] 74))
    have HO3 := hid (ownsRow_below HO2.out HB3.out)
    have HN3 := hid (u_Rd.new w2 74 2 (roC [⟨x, y⟩]) 1 rfl)
    have HB4 := hid (bb HB2.out HB3.out)
    clear hb2 C HO0 HO2 HB0
    go_wp2_with (at_builtin; refine wpList_append_own_at _ rfl _ _ 31 rfl w.heap.size 74 i0 _ 2 24 Try.underlying31 HI.out.1 HI.out.2.1 HI.out.2.2.1 HI.out.2.2.2 rfl (by decide) _ i (roC (l.take i)) rfl HO3.out ⟨w2.heap.size, 0, none⟩ 1 1 (roC [⟨x, y⟩]) rfl rfl (fun j u hj => by obtain ⟨b', o', c', e', _, _, h4⟩ := HN3.out.at_; cases e'; rw [u_add_plainW]; exact h4 j u hj) (roC_one _) (by unfold maxLen; omega) (by omega) HB4.out.size ?_)
    intro v' w4 ho4 hg4 _ _
    have HO4 := hid ho4
    have HB5 := hid (HB4.out.grown hg4 HB4.out.size (fun k e => (HO3.out.lt k e).1))
    clear ho4 hg4 HN3 HO3
    go_wp2_with fail
    go_roundw
    case rel => exact ⟨i + 1, by go_num, by omega, by rw [HX.out]; exact HO4.out, HB5.out⟩
    case measure => simp [intOf]; omega

end Go.Proofs.Ytdgppdjjmpjgkaa
