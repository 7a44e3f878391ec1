/- What a claim says, kind by kind: contracts of the program's functions in the table of kids. What a claim says of its facts: contract of the program's factsTold. Contracts of the pile of numbers: taken off, laid on, down to. -/
import Derived.Test.YtcjeodgfpnecgaaGreatDoorM17
import Derived.Test.YtcjeodgfpnecgaaGreatDoorM12
import Derived.Test.YtcjeodgfpnecgaaGreatDoorM20
import Derived.Test.YtcjeodgfpnecgaaGreatDoorM21
import Derived.Test.YtcjeodgfpnecgaaGreatDoorM16
import Derived.Maps.AppendAt
namespace Go.Proofs.YtcjeodgfpnecgaaGreatDoor
open Go.RowKit
set_option linter.unusedVariables false
set_option linter.unusedSimpArgs false

/-- Sayings in a row that was made since. -/
def SayR (w : World) (B : Nat) (a : Option Addr) (l : List Say) : Prop := 0 < l.length → ∃ b cu, a = some ⟨b, 0, none⟩ ∧ B ≤ b ∧ w.heap[b]? = some (.cells cu 85 (0, 0)) ∧ ∀ j (h : j < l.length), ∃ aj cj, cu[j * 2]? = some (.slice aj l[j].attrs.length cj) ∧ cu[j * 2 + 1]? = some (.string l[j].text) ∧ OwnAts w B aj l[j].attrs

theorem SayR.nil (w : World) (B : Nat) (a : Option Addr) : SayR w B a [] := fun h => absurd h (Nat.lt_irrefl 0)

theorem SayR.one {w : World} {B g : Nat} {x : Say} {aj : Option Addr} {cj : Nat} (hB : B ≤ g) (hh : w.heap[g]? = some (.cells #[.slice aj x.attrs.length cj, .string x.text] 85 (0, 0))) (hA : OwnAts w B aj x.attrs) : SayR w B (some ⟨g, 0, none⟩) [x] := fun _ =>
  ⟨g, _, rfl, hB, hh, fun j h => by
    have : j = 0 := by simp at h; omega
    subst this
    exact ⟨aj, cj, rfl, rfl, hA⟩⟩

theorem q_heap2 (w : World) (A B : Obj) : ((w.alloc A).alloc B).heap[w.heap.size + 1]? = some B := by
  have h := heap_alloc_new (w.alloc A) B
  rw [World.size_alloc] at h
  exact h

/-- How a function of the table is called. -/
def Told (F : FuncId) (C : Array Value) (w : World) (c : Cm) (a : Option Addr) (cap : Nat) (l : List Say) : Prop :=
  (∀ v (wx : World), (callFunc F (#[v] ++ C)).run Tryz.prog wx = .ok (.enter F (#[v] ++ C)) wx) ∧
  ∀ (wx : World), Below w.heap.size w wx → Calls Tryz.prog F (#[cmV c a cap] ++ C) wx fun e w' => ∃ a' c', e = .returned (.slice a' l.length c') ∧ SayR w' wx.heap.size a' l ∧ Below wx.heap.size wx w'

set_option maxHeartbeats 1000000 in
theorem cField1 (p : Nat) (w : World) : Calls Tryz.prog 77 #[.pointer (some ⟨p, 0, none⟩)] w fun e w' => e = .returned (.pointer (some ⟨p, 1, none⟩)) ∧ w' = w := by
  go_enter Tryz.func77, Tryz.ntmps77
  go_wp2
  go_ret
  exact ⟨rfl, rfl⟩

set_option maxRecDepth 8000 in
set_option maxHeartbeats 4000000 in
theorem cTold1 (b : Nat) (T : TypeId) (c : Cm) (a : Option Addr) (cap : Nat) (w : World) (hb : w.heap[b]? = some (.cells #[.func (.func 77) #[] #[]] T (0, 0))) :
    Calls Tryz.prog 99 #[cmV c a cap, .pointer (some ⟨b, 0, none⟩)] w fun e w' => ∃ a' c', e = .returned (.slice a' (txtL c.iss).length c') ∧ SayR w' w.heap.size a' (txtL c.iss) ∧ Below w.heap.size w w' := by
  have HX := hid (ClBox.new w c (.slice a c.facts.length cap) 31)
  have HB0 := hid ((Below.refl w.heap.size w).alloc (Nat.le_refl _) (.cells #[.string c.id, .string c.iss, .string c.sub, .int .i64 c.frm, .int .i64 c.til, .string c.whom, .string c.ans, .slice a c.facts.length cap] 31))
  have E := empty_is c.iss
  have CF := hid (fun p wx => cField1 p wx)
  unfold cmV
  obtain ⟨w0, hw0⟩ : ∃ w0, w.alloc (.cells #[.string c.id, .string c.iss, .string c.sub, .int .i64 c.frm, .int .i64 c.til, .string c.whom, .string c.ans, .slice a c.facts.length cap] 31) = w0 := ⟨_, rfl⟩
  rw [hw0] at HX HB0
  have f0 : w0.cell? ⟨b, 0, none⟩ = some (.func (.func 77) #[] #[]) := by rw [Lib.cell_of_heap (blk_below hb HB0.out)]; rfl
  obtain ⟨B, hB⟩ : ∃ B, w.heap.size = B := ⟨_, rfl⟩
  rw [hB] at HX
  have f1 := HX.out.c1
  clear hb
  by_cases ht : c.iss.size = 0
  · rw [decide_eq_true ht] at E
    have HE := hid (show txtL c.iss = [] from if_pos ht)
    clear ht
    go_enter Tryz.func99, Tryz.ntmps99
    go_wp2_with fail
    refine (CF.out _ _).mono ?_
    rintro e w1 ⟨rfl, rfl⟩
    go_wp2_with fail
    go_ret
    exact ⟨none, 0, by rw [HE.out]; rfl, by rw [HE.out]; exact SayR.nil _ _ _, hB ▸ HB0.out⟩
  · rw [decide_eq_false ht] at E
    have HE := hid (txtL_one ht)
    clear ht
    go_enter Tryz.func99, Tryz.ntmps99
    go_wp2_with fail
    refine (CF.out _ _).mono ?_
    rintro e w1 ⟨rfl, rfl⟩
    go_wp2_with fail
    refine (CF.out _ _).mono ?_
    rintro e w1 ⟨rfl, rfl⟩
    go_wp2_with fail
    go_ret
    exact ⟨_, _, by rw [HE.out]; rfl, by rw [HE.out]; exact SayR.one (hB ▸ HB0.out.size) (heap_alloc_new _ _) (own_nil _ _ none), hB ▸ HB0.out.alloc HB0.out.size _⟩

set_option maxHeartbeats 1000000 in
theorem cField2 (p : Nat) (w : World) : Calls Tryz.prog 78 #[.pointer (some ⟨p, 0, none⟩)] w fun e w' => e = .returned (.pointer (some ⟨p, 2, none⟩)) ∧ w' = w := by
  go_enter Tryz.func78, Tryz.ntmps78
  go_wp2
  go_ret
  exact ⟨rfl, rfl⟩

set_option maxRecDepth 8000 in
set_option maxHeartbeats 4000000 in
theorem cTold2 (b : Nat) (T : TypeId) (c : Cm) (a : Option Addr) (cap : Nat) (w : World) (hb : w.heap[b]? = some (.cells #[.func (.func 78) #[] #[]] T (0, 0))) :
    Calls Tryz.prog 99 #[cmV c a cap, .pointer (some ⟨b, 0, none⟩)] w fun e w' => ∃ a' c', e = .returned (.slice a' (txtL c.sub).length c') ∧ SayR w' w.heap.size a' (txtL c.sub) ∧ Below w.heap.size w w' := by
  have HX := hid (ClBox.new w c (.slice a c.facts.length cap) 31)
  have HB0 := hid ((Below.refl w.heap.size w).alloc (Nat.le_refl _) (.cells #[.string c.id, .string c.iss, .string c.sub, .int .i64 c.frm, .int .i64 c.til, .string c.whom, .string c.ans, .slice a c.facts.length cap] 31))
  have E := empty_is c.sub
  have CF := hid (fun p wx => cField2 p wx)
  unfold cmV
  obtain ⟨w0, hw0⟩ : ∃ w0, w.alloc (.cells #[.string c.id, .string c.iss, .string c.sub, .int .i64 c.frm, .int .i64 c.til, .string c.whom, .string c.ans, .slice a c.facts.length cap] 31) = w0 := ⟨_, rfl⟩
  rw [hw0] at HX HB0
  have f0 : w0.cell? ⟨b, 0, none⟩ = some (.func (.func 78) #[] #[]) := by rw [Lib.cell_of_heap (blk_below hb HB0.out)]; rfl
  obtain ⟨B, hB⟩ : ∃ B, w.heap.size = B := ⟨_, rfl⟩
  rw [hB] at HX
  have f1 := HX.out.c2
  clear hb
  by_cases ht : c.sub.size = 0
  · rw [decide_eq_true ht] at E
    have HE := hid (show txtL c.sub = [] from if_pos ht)
    clear ht
    go_enter Tryz.func99, Tryz.ntmps99
    go_wp2_with fail
    refine (CF.out _ _).mono ?_
    rintro e w1 ⟨rfl, rfl⟩
    go_wp2_with fail
    go_ret
    exact ⟨none, 0, by rw [HE.out]; rfl, by rw [HE.out]; exact SayR.nil _ _ _, hB ▸ HB0.out⟩
  · rw [decide_eq_false ht] at E
    have HE := hid (txtL_one ht)
    clear ht
    go_enter Tryz.func99, Tryz.ntmps99
    go_wp2_with fail
    refine (CF.out _ _).mono ?_
    rintro e w1 ⟨rfl, rfl⟩
    go_wp2_with fail
    refine (CF.out _ _).mono ?_
    rintro e w1 ⟨rfl, rfl⟩
    go_wp2_with fail
    go_ret
    exact ⟨_, _, by rw [HE.out]; rfl, by rw [HE.out]; exact SayR.one (hB ▸ HB0.out.size) (heap_alloc_new _ _) (own_nil _ _ none), hB ▸ HB0.out.alloc HB0.out.size _⟩

set_option maxHeartbeats 1000000 in
theorem cField3 (p : Nat) (w : World) : Calls Tryz.prog 81 #[.pointer (some ⟨p, 0, none⟩)] w fun e w' => e = .returned (.pointer (some ⟨p, 5, none⟩)) ∧ w' = w := by
  go_enter Tryz.func81, Tryz.ntmps81
  go_wp2
  go_ret
  exact ⟨rfl, rfl⟩

set_option maxRecDepth 8000 in
set_option maxHeartbeats 4000000 in
theorem cTold3 (b : Nat) (T : TypeId) (c : Cm) (a : Option Addr) (cap : Nat) (w : World) (hb : w.heap[b]? = some (.cells #[.func (.func 81) #[] #[]] T (0, 0))) :
    Calls Tryz.prog 99 #[cmV c a cap, .pointer (some ⟨b, 0, none⟩)] w fun e w' => ∃ a' c', e = .returned (.slice a' (txtL c.whom).length c') ∧ SayR w' w.heap.size a' (txtL c.whom) ∧ Below w.heap.size w w' := by
  have HX := hid (ClBox.new w c (.slice a c.facts.length cap) 31)
  have HB0 := hid ((Below.refl w.heap.size w).alloc (Nat.le_refl _) (.cells #[.string c.id, .string c.iss, .string c.sub, .int .i64 c.frm, .int .i64 c.til, .string c.whom, .string c.ans, .slice a c.facts.length cap] 31))
  have E := empty_is c.whom
  have CF := hid (fun p wx => cField3 p wx)
  unfold cmV
  obtain ⟨w0, hw0⟩ : ∃ w0, w.alloc (.cells #[.string c.id, .string c.iss, .string c.sub, .int .i64 c.frm, .int .i64 c.til, .string c.whom, .string c.ans, .slice a c.facts.length cap] 31) = w0 := ⟨_, rfl⟩
  rw [hw0] at HX HB0
  have f0 : w0.cell? ⟨b, 0, none⟩ = some (.func (.func 81) #[] #[]) := by rw [Lib.cell_of_heap (blk_below hb HB0.out)]; rfl
  obtain ⟨B, hB⟩ : ∃ B, w.heap.size = B := ⟨_, rfl⟩
  rw [hB] at HX
  have f1 := HX.out.c5
  clear hb
  by_cases ht : c.whom.size = 0
  · rw [decide_eq_true ht] at E
    have HE := hid (show txtL c.whom = [] from if_pos ht)
    clear ht
    go_enter Tryz.func99, Tryz.ntmps99
    go_wp2_with fail
    refine (CF.out _ _).mono ?_
    rintro e w1 ⟨rfl, rfl⟩
    go_wp2_with fail
    go_ret
    exact ⟨none, 0, by rw [HE.out]; rfl, by rw [HE.out]; exact SayR.nil _ _ _, hB ▸ HB0.out⟩
  · rw [decide_eq_false ht] at E
    have HE := hid (txtL_one ht)
    clear ht
    go_enter Tryz.func99, Tryz.ntmps99
    go_wp2_with fail
    refine (CF.out _ _).mono ?_
    rintro e w1 ⟨rfl, rfl⟩
    go_wp2_with fail
    refine (CF.out _ _).mono ?_
    rintro e w1 ⟨rfl, rfl⟩
    go_wp2_with fail
    go_ret
    exact ⟨_, _, by rw [HE.out]; rfl, by rw [HE.out]; exact SayR.one (hB ▸ HB0.out.size) (heap_alloc_new _ _) (own_nil _ _ none), hB ▸ HB0.out.alloc HB0.out.size _⟩

set_option maxHeartbeats 1000000 in
theorem cField4 (p : Nat) (w : World) : Calls Tryz.prog 82 #[.pointer (some ⟨p, 0, none⟩)] w fun e w' => e = .returned (.pointer (some ⟨p, 6, none⟩)) ∧ w' = w := by
  go_enter Tryz.func82, Tryz.ntmps82
  go_wp2
  go_ret
  exact ⟨rfl, rfl⟩

set_option maxRecDepth 8000 in
set_option maxHeartbeats 4000000 in
theorem cTold4 (b : Nat) (T : TypeId) (c : Cm) (a : Option Addr) (cap : Nat) (w : World) (hb : w.heap[b]? = some (.cells #[.func (.func 82) #[] #[]] T (0, 0))) :
    Calls Tryz.prog 99 #[cmV c a cap, .pointer (some ⟨b, 0, none⟩)] w fun e w' => ∃ a' c', e = .returned (.slice a' (txtL c.ans).length c') ∧ SayR w' w.heap.size a' (txtL c.ans) ∧ Below w.heap.size w w' := by
  have HX := hid (ClBox.new w c (.slice a c.facts.length cap) 31)
  have HB0 := hid ((Below.refl w.heap.size w).alloc (Nat.le_refl _) (.cells #[.string c.id, .string c.iss, .string c.sub, .int .i64 c.frm, .int .i64 c.til, .string c.whom, .string c.ans, .slice a c.facts.length cap] 31))
  have E := empty_is c.ans
  have CF := hid (fun p wx => cField4 p wx)
  unfold cmV
  obtain ⟨w0, hw0⟩ : ∃ w0, w.alloc (.cells #[.string c.id, .string c.iss, .string c.sub, .int .i64 c.frm, .int .i64 c.til, .string c.whom, .string c.ans, .slice a c.facts.length cap] 31) = w0 := ⟨_, rfl⟩
  rw [hw0] at HX HB0
  have f0 : w0.cell? ⟨b, 0, none⟩ = some (.func (.func 82) #[] #[]) := by rw [Lib.cell_of_heap (blk_below hb HB0.out)]; rfl
  obtain ⟨B, hB⟩ : ∃ B, w.heap.size = B := ⟨_, rfl⟩
  rw [hB] at HX
  have f1 := HX.out.c6
  clear hb
  by_cases ht : c.ans.size = 0
  · rw [decide_eq_true ht] at E
    have HE := hid (show txtL c.ans = [] from if_pos ht)
    clear ht
    go_enter Tryz.func99, Tryz.ntmps99
    go_wp2_with fail
    refine (CF.out _ _).mono ?_
    rintro e w1 ⟨rfl, rfl⟩
    go_wp2_with fail
    go_ret
    exact ⟨none, 0, by rw [HE.out]; rfl, by rw [HE.out]; exact SayR.nil _ _ _, hB ▸ HB0.out⟩
  · rw [decide_eq_false ht] at E
    have HE := hid (txtL_one ht)
    clear ht
    go_enter Tryz.func99, Tryz.ntmps99
    go_wp2_with fail
    refine (CF.out _ _).mono ?_
    rintro e w1 ⟨rfl, rfl⟩
    go_wp2_with fail
    refine (CF.out _ _).mono ?_
    rintro e w1 ⟨rfl, rfl⟩
    go_wp2_with fail
    go_ret
    exact ⟨_, _, by rw [HE.out]; rfl, by rw [HE.out]; exact SayR.one (hB ▸ HB0.out.size) (heap_alloc_new _ _) (own_nil _ _ none), hB ▸ HB0.out.alloc HB0.out.size _⟩

set_option maxRecDepth 8000 in
set_option maxHeartbeats 4000000 in
theorem cTermTold (c : Cm) (a : Option Addr) (cap : Nat) (w : World) (hL : Laid w) :
    Calls Tryz.prog 79 #[cmV c a cap] w fun e w' => ∃ a' c', e = .returned (.slice a' 1 c') ∧ SayR w' w.heap.size a' [⟨[⟨fromS, qTx c.frm⟩, ⟨toS, qTx c.til⟩], nE⟩] ∧ Below w.heap.size w w' := by
  have HX := hid (ClBox.new w c (.slice a c.facts.length cap) 31)
  have HB0 := hid ((Below.refl w.heap.size w).alloc (Nat.le_refl _) (.cells #[.string c.id, .string c.iss, .string c.sub, .int .i64 c.frm, .int .i64 c.til, .string c.whom, .string c.ans, .slice a c.facts.length cap] 31))
  have CT1 := hid (fun wx (h : Below w.heap.size w wx) => cTextI c.frm wx (hL.below h))
  have CT2 := hid (fun wx (h : Below w.heap.size w wx) => cTextI c.til wx (hL.below h))
  unfold cmV
  obtain ⟨w0, hw0⟩ : ∃ w0, w.alloc (.cells #[.string c.id, .string c.iss, .string c.sub, .int .i64 c.frm, .int .i64 c.til, .string c.whom, .string c.ans, .slice a c.facts.length cap] 31) = w0 := ⟨_, rfl⟩
  rw [hw0] at HX HB0
  change Hid (∀ wx, Below w.heap.size w wx → Calls Tryz.prog 101 #[.int .i64 c.frm] wx fun e w' => e = .returned (.string (qTx c.frm)) ∧ Below wx.heap.size wx w') at CT1
  change Hid (∀ wx, Below w.heap.size w wx → Calls Tryz.prog 101 #[.int .i64 c.til] wx fun e w' => e = .returned (.string (qTx c.til)) ∧ Below wx.heap.size wx w') at CT2
  generalize qTx c.frm = U at *
  generalize qTx c.til = V at *
  obtain ⟨B, hB⟩ : ∃ B, w.heap.size = B := ⟨_, rfl⟩
  rw [hB] at HX
  clear hL
  have HSZ := hid (show B ≤ w0.heap.size from hB ▸ HB0.out.size)
  go_enter Tryz.func79, Tryz.ntmps79
  go_wp2_with fail
  have HBc := hid ((Below.refl w0.heap.size w0).drew)
  have HSX := hid (show ∀ W', Below w0.heap.size w0 W' → W'.cell? ⟨B, 3, none⟩ = some (.int .i64 c.frm) ∧ W'.cell? ⟨B, 4, none⟩ = some (.int .i64 c.til) from fun W' hb => ⟨(HX.out.below hb).c3, (HX.out.below hb).c4⟩)
  go_region_held3 (fun w' => w'.cell? ⟨B, 3, none⟩ = some (.int .i64 c.frm) ∧ w'.cell? ⟨B, 4, none⟩ = some (.int .i64 c.til)) (first | exact HSX.out _ HBc.out | exact HSX.out _ (HBc.out.alloc HBc.out.size _) | exact HSX.out _ ((HBc.out.alloc HBc.out.size _).alloc (HBc.out.alloc HBc.out.size _).size _))
    (first
      | (go_at_call 101; (with_reducible refine (CT1.out _ (bb HB0.out HBc.out)).mono ?_); rintro e w4 ⟨rfl, hb4⟩; replace HBc := hid (bb HBc.out hb4); clear hb4)
      | (go_at_call 101; (with_reducible refine (CT2.out _ (bb HB0.out HBc.out)).mono ?_); rintro e w5 ⟨rfl, hb5⟩; replace HBc := hid (bb HBc.out hb5); clear hb5))
  all_goals
    go_wp2_with fail
    go_ret
    have hq1 := HBc.out.size
    have hq2 := HB0.out.size
    exact ⟨_, _, rfl, SayR.one (x := ⟨[⟨fromS, U⟩, ⟨toS, V⟩], nE⟩) (by omega) (q_heap2 _ _ _) (own_of (by omega) (blk_alloc (heap_alloc_new _ _) _) (cells_two _ _ _ _)), hB ▸ bb HB0.out ((HBc.out.alloc HBc.out.size _).alloc (HBc.out.alloc HBc.out.size _).size _)⟩

end Go.Proofs.YtcjeodgfpnecgaaGreatDoor

namespace Go.Proofs.YtcjeodgfpnecgaaGreatDoor
open Go.RowKit
set_option linter.unusedVariables false
set_option linter.unusedSimpArgs false

/-- A saying, and where its attrs lie. -/
structure SE where
  x : Say
  a : Option Addr
  c : Nat

def seC (es : List SE) : List Value := es.flatMap fun e => [.slice e.a e.x.attrs.length e.c, .string e.x.text]

theorem seC_app (es fs : List SE) : seC (es ++ fs) = seC es ++ seC fs := by unfold seC; rw [List.flatMap_append]

theorem seC_len (es : List SE) : (seC es).length = es.length * 2 := by
  induction es with
  | nil => rfl
  | cons x es ih => show (seC es).length + 2 = _; rw [ih, List.length_cons]; omega

theorem seC_cell (es : List SE) : ∀ u ∈ seC es, u.oneCell' = true := by
  intro u hu
  unfold seC at hu
  obtain ⟨e, _, he⟩ := List.mem_flatMap.1 hu
  simp at he
  rcases he with rfl | rfl <;> rfl

theorem seC_get (es : List SE) (j : Nat) (h : j < es.length) : (seC es)[j * 2]? = some (.slice es[j].a es[j].x.attrs.length es[j].c) ∧ (seC es)[j * 2 + 1]? = some (.string es[j].x.text) := by
  induction es generalizing j with
  | nil => simp at h
  | cons x es ih =>
    have e : seC (x :: es) = .slice x.a x.x.attrs.length x.c :: .string x.x.text :: seC es := rfl
    rw [e]
    match j with
    | 0 => exact ⟨rfl, rfl⟩
    | j + 1 =>
      have := ih j (by simpa using h)
      rw [show (j + 1) * 2 = j * 2 + 1 + 1 by omega]
      exact this

theorem infoSay : (Tryz.prog.info? 85).map (fun i => (i.zero, i.size, i.bytes)) = some (some (.agg #[.slice none 0 0, .string ⟨#[]⟩]), 2, 40) := by kernel_rfl

/-- The sayings so far. -/
structure SRow (B : Nat) (w : World) (v : Value) (l : List Say) : Prop where
  row : ∃ es : List SE, w.ownsRow B 85 2 v es.length (seC es) ∧ es.map (·.x) = l ∧ ∀ e ∈ es, OwnAts w B e.a e.x.attrs ∧ KAts w v e.a e.x.attrs
  base : B ≤ w.heap.size

theorem SRow.start (B : Nat) (w : World) (h : B ≤ w.heap.size) : SRow B w (.slice none 0 0) [] := ⟨⟨[], World.ownsRow_nil _ _ _ _, rfl, fun e he => absurd he List.not_mem_nil⟩, h⟩

theorem SRow.below {B : Nat} {w w' : World} {v : Value} {l : List Say} (h : SRow B w v l) (hb : Below w.heap.size w w') : SRow B w' v l := by
  obtain ⟨es, h1, h2, h3⟩ := h.row
  exact ⟨⟨es, ownsRow_below h1 hb, h2, fun e he => ⟨(h3 e he).1.below hb, (h3 e he).2.below hb⟩⟩, Nat.le_trans h.base hb.size⟩

theorem SRow.sayR {B : Nat} {w : World} {v : Value} {l : List Say} (h : SRow B w v l) : ∃ a c, v = .slice a l.length c ∧ SayR w B a l := by
  obtain ⟨es, h1, rfl, h3⟩ := h.row
  rw [List.length_map]
  rcases h1.2 with ⟨rfl, h0⟩ | ⟨g, cap, cur, rfl, hg, hh, hn, hc, hs, ht⟩
  · exact ⟨none, 0, by rw [h0], fun hl => by rw [List.length_map] at hl; omega⟩
  · refine ⟨some ⟨g, 0, none⟩, cap, rfl, fun hl => ⟨g, cur, rfl, hg, hh, fun j hj => ?_⟩⟩
    rw [List.length_map] at hj
    obtain ⟨k0, k1⟩ := seC_get es j hj
    have hx : ∀ (k : Nat) (u : Value), (seC es)[k]? = some u → cur[k]? = some u := by
      intro k u hk
      rw [← Array.getElem?_toList]
      rw [← ht, List.getElem?_take] at hk
      split at hk
      · exact hk
      · cases hk
    refine ⟨es[j].a, es[j].c, ?_, ?_, ?_⟩
    · rw [List.getElem_map]; exact hx _ _ k0
    · rw [List.getElem_map]; exact hx _ _ k1
    · rw [List.getElem_map]; exact (h3 _ (List.getElem_mem hj)).1

theorem wpL_say (w : World) {ops : Array Oper} {rest : List Oper} {o : Oper} {a : Act} {Q : Exit → Act → World → Prop} (hgd : o.guard = none) (s x : Operand)
    (ho : o.op = .call { callee := .builtin .append, args := #[s, x], argTypes := #[83, 83] }) (B : Nat) (v : Value) (L : List Say) (hs : a.eval s = v) (hrow : SRow B w v L)
    (t : Say) (a1 : Option Addr) (c1 g nA : Nat) (hx : a.eval x = .slice (some ⟨g, 0, none⟩) 1 1) (hnA : t.attrs.length = nA) (hg : w.heap[g]? = some (.cells #[.slice a1 nA c1, .string t.text] 85 (0, 0))) (hO : OwnAts w B a1 t.attrs) (hA : KAts w v a1 t.attrs) (hn : L.length ≤ 1000000)
    (h : ∀ v' w', SRow B w' v' (L ++ [t]) → Below B w w' → wpList Tryz.prog ops Q rest (a.put o.dst v') w') : wpList Tryz.prog ops Q (o :: rest) a w := by
  subst hnA
  obtain ⟨es, h1, rfl, h3⟩ := hrow.row
  rw [List.length_map] at hn
  obtain ⟨i0, hi, hz0, hz1, hz2⟩ := info_parts infoSay
  refine wpList_append_own_at w hgd s x 83 ho B 85 i0 _ 2 40 Tryz.underlying83 hi hz0 hz1 hz2 rfl (by decide) v es.length (seC es) hs h1 ⟨g, 0, none⟩ 1 1 (seC [⟨t, a1, c1⟩]) hx (seC_len [⟨t, a1, c1⟩]) (fun j u hj => ?_) (seC_cell _) (by unfold maxLen; omega) (by omega) hrow.base ?_
  · rw [add_plainW, Nat.zero_add, Lib.cell_of_heap hg]
    match j, hj with
    | 0, hj => exact hj
    | 1, hj => exact hj
  intro v' w' ho' hgr _ hw
  have key : Kept v w v' w' := fun b o h k => by
    refine ⟨(hgr.block b (lt_of_heap h) (fun x => k x.symm)).trans h, fun x => ?_⟩
    rcases hw with hw | hw
    · exact k (hw.symm.trans x)
    · rw [hw] at x
      have := lt_of_heap h
      have := Option.some.inj x
      omega
  have lift : ∀ (a : Option Addr) (l : List At), OwnAts w B a l → KAts w v a l → OwnAts w' B a l ∧ KAts w' v' a l := fun a l h1 h2 => by
    refine ⟨fun hl => ?_, h2.kept key⟩
    obtain ⟨g1, o1, cu1, e1, e2, e3, e4⟩ := h1 hl
    obtain ⟨g2, o2, cu2, f1, f2, f3, f4⟩ := h2 hl
    rw [e1] at f1
    cases f1
    exact ⟨g1, o1, cu1, e1, e2, (key _ _ e3 f4).1, e4⟩
  refine h v' w' ⟨⟨es ++ [⟨t, a1, c1⟩], by rw [List.length_append, seC_app]; exact ho', by rw [List.map_append]; rfl, fun e he => ?_⟩, Nat.le_trans hrow.base hgr.size⟩ ((Below.refl B w).grown hgr hrow.base (fun k e => (h1.lt k e).1))
  rcases List.mem_append.1 he with h' | h'
  · exact lift _ _ (h3 e h').1 (h3 e h').2
  · rw [List.mem_singleton] at h'
    subst h'
    exact lift _ _ hO hA

theorem SRow.other {B : Nat} {w : World} {v : Value} {L : List Say} (h : SRow B w v L) {b : Nat} (hb : w.heap.size ≤ b) : ¬ v.ownBlock = some b := fun e => by
  obtain ⟨es, h1, h2, h3⟩ := h.row
  have := (h1.lt b e).2
  omega

theorem kats_of {w : World} {v : Value} {g : Nat} {cu : Array Value} {l : List At} (hh : w.heap[g]? = some (.cells cu 58 (0, 0))) (hc : AtCells cu 0 l) (hv : ¬ v.ownBlock = some g) : KAts w v (some ⟨g, 0, none⟩) l := fun _ => ⟨g, 0, cu, rfl, hh, hc, hv⟩

set_option maxRecDepth 8000 in
set_option maxHeartbeats 8000000 in
theorem cFactsTold (c : Cm) (a : Option Addr) (cap : Nat) (w : World) (hR : AtRow w a c.facts) (h4 : c.facts.length ≤ 1000) :
    Calls Tryz.prog 83 #[cmV c a cap] w fun e w' => ∃ a' c', e = .returned (.slice a' (factL c.facts).length c') ∧ SayR w' w.heap.size a' (factL c.facts) ∧ Below w.heap.size w w' := by
  have HX := hid (ClBox.new w c (.slice a c.facts.length cap) 31)
  have HB0 := hid ((Below.refl w.heap.size w).alloc (Nat.le_refl _) (.cells #[.string c.id, .string c.iss, .string c.sub, .int .i64 c.frm, .int .i64 c.til, .string c.whom, .string c.ans, .slice a c.facts.length cap] 31))
  unfold cmV
  obtain ⟨w0, hw0⟩ : ∃ w0, w.alloc (.cells #[.string c.id, .string c.iss, .string c.sub, .int .i64 c.frm, .int .i64 c.til, .string c.whom, .string c.ans, .slice a c.facts.length cap] 31) = w0 := ⟨_, rfl⟩
  rw [hw0] at HX HB0
  have HR := hid hR
  obtain ⟨n, hn⟩ : ∃ n, c.facts.length = n := ⟨_, rfl⟩
  have HN := hid hn
  rw [hn] at h4 HX hw0 ⊢
  clear hn hR
  obtain ⟨B, hB⟩ : ∃ B, w.heap.size = B := ⟨_, rfl⟩
  rw [hB] at HX
  have f7 := HX.out.c7
  clear HX
  generalize hL : c.facts = L at *
  clear hL
  go_enter Tryz.func83, Tryz.ntmps83
  go_wp2_with fail
  clear f7
  go_loopw [3, 9] (fun v x wr => ∃ i : Nat, x = .int .i64 (i : Int) ∧ i ≤ n ∧ Hid (SRow w.heap.size wr v ((factL L).take i)) ∧ Hid (Below w.heap.size w wr)) (fun _ x _ => n - (intOf x).toNat)
  case atStart => exact ⟨0, rfl, Nat.zero_le _, by rw [List.take_zero]; exact SRow.start _ _ HB0.out.size, HB0.out⟩
  case round =>
    obtain ⟨i, rfl, hin, HS, HB⟩ := hrel
    by_cases hlt : i < n
    · have his : i < L.length := by rw [HN.out]; exact hlt
      have hit : (i : Int) < (n : Int) := by omega
      obtain ⟨b, o, rfl, hb, k1, k2⟩ := HR.out.below HB.out i his
      have HNX := hid (factL_take his)
      have HLE := hid (show ((factL L).take i).length ≤ 1000000 by rw [List.length_take]; omega)
      generalize L[i].name = nm at *
      generalize L[i].value = vl at *
      generalize (factL L).take i = Ls at *
      have HBa := hid ((Below.refl wr.heap.size wr).alloc (Nat.le_refl _) (.cells #[.string nm, .string vl] 58))
      have ba := q_box2 (heap_alloc_new wr (.cells #[.string nm, .string vl] 58))
      obtain ⟨wa, hwa⟩ : ∃ wa, wr.alloc (.cells #[.string nm, .string vl] 58) = wa := ⟨_, rfl⟩
      rw [hwa] at HBa ba
      obtain ⟨⟨p0, p1⟩, _⟩ := ba
      have HBb := hid ((Below.refl wa.heap.size wa).alloc (Nat.le_refl _) (.cells #[.string nameS, .string nm] 58))
      have Hb1 := hid (heap_alloc_new wa (.cells #[.string nameS, .string nm] 58))
      obtain ⟨wb, hwb⟩ : ∃ wb, wa.alloc (.cells #[.string nameS, .string nm] 58) = wb := ⟨_, rfl⟩
      rw [hwb] at HBb Hb1
      have p2 : wb.cell? ⟨wr.heap.size, 1, none⟩ = some (.string vl) := (HBb.out.cell (p := ⟨wr.heap.size, 1, none⟩) (by rw [← hwa]; simp)).trans p1
      obtain ⟨ga, hga⟩ : ∃ g, wa.heap.size = g := ⟨_, rfl⟩
      rw [hga] at Hb1
      have HBd := hid ((Below.refl wb.heap.size wb).alloc (Nat.le_refl _) (.cells #[.slice (some ⟨ga, 0, none⟩) 1 1, .string vl] 85))
      have Hd1 := hid (heap_alloc_new wb (.cells #[.slice (some ⟨ga, 0, none⟩) 1 1, .string vl] 85))
      obtain ⟨wd, hwd⟩ : ∃ wd, wb.alloc (.cells #[.slice (some ⟨ga, 0, none⟩) 1 1, .string vl] 85) = wd := ⟨_, rfl⟩
      rw [hwd] at HBd Hd1
      obtain ⟨gb, hgb⟩ : ∃ g, wb.heap.size = g := ⟨_, rfl⟩
      rw [hgb] at Hd1
      have HBw := hid (bb (bb HBa.out HBb.out) HBd.out)
      have HSd := hid (HS.out.below HBw.out)
      have HGa := hid (show wr.heap.size ≤ ga by rw [← hga]; exact HBa.out.size)
      have HOA := hid (show OwnAts wd w.heap.size (some ⟨ga, 0, none⟩) [⟨nameS, nm⟩] from own_of (Nat.le_trans HS.out.base HGa.out) (blk_below Hb1.out HBd.out) (cells_one _ _))
      have HKA := hid (show KAts wd u3 (some ⟨ga, 0, none⟩) [⟨nameS, nm⟩] from kats_of (blk_below Hb1.out HBd.out) (cells_one _ _) (HS.out.other HGa.out))
      have HBD := hid (bb HB.out HBw.out)
      unfold nameS at hwb
      clear his HBa HBb HBd Hb1 HBw
      go_wp2_with (at_builtin; refine wpL_say wd rfl _ _ rfl w.heap.size u3 Ls rfl HSd.out ⟨[⟨nameS, nm⟩], vl⟩ (some ⟨ga, 0, none⟩) 1 gb 1 rfl rfl Hd1.out HOA.out HKA.out HLE.out ?_)
      intro v8 w8 hr8 hb8
      rw [← hB] at hb8 hr8
      have HR8 := hid (HNX.out ▸ hr8)
      have HB8 := hid (HBD.out.trans hb8)
      clear hr8 hb8
      go_wp2_with fail
      go_roundw
      case rel => exact ⟨i + 1, by go_num, by omega, HR8.out, HB8.out⟩
      case measure => simp [intOf]; omega
    · have hie : i = n := by omega
      subst hie
      have HF := hid (show SRow w.heap.size wr u3 (factL L) by
        have h := HS.out
        rw [List.take_of_length_le (by rw [factL_len, HN.out]; exact Nat.le_refl _)] at h
        exact h)
      obtain ⟨a5, c5, hv, hsr⟩ := HF.out.sayR
      have HSR := hid hsr
      clear hsr
      subst hv
      go_wp2_with fail
      go_ret
      exact ⟨a5, c5, rfl, HSR.out, HB.out⟩

end Go.Proofs.YtcjeodgfpnecgaaGreatDoor

namespace Go.Proofs.YtcjeodgfpnecgaaGreatDoor
open Go.RowKit
set_option linter.unusedVariables false
set_option linter.unusedSimpArgs false

set_option maxHeartbeats 2000000 in
theorem cPiTake (B g o : Nat) (cur : Array Value) (T : TypeId) (v : Value) (x : Nat) (L : List Nat) (w : World) (h : PileI w B g o cur T v (x :: L)) (hn : L.length ≤ 1048576) :
    Calls Tryz.prog 90 #[.pointer (some ⟨g, o, none⟩)] w fun e w' => e = .returned (.tuple #[.int .i64 (x : Int), .bool true]) ∧ (∃ v', PileI w' B g o (cur.setIfInBounds o v') T v' L ∧ v'.ownBlock = v.ownBlock) ∧ KeepB (fun k => k = g) w w' := by
  have C := hid (cPiTop B g o cur T v x L w h hn)
  obtain ⟨b, c, rfl, hb, _, hc, hcs⟩ := own_pos h.row (Nat.succ_pos _)
  clear hcs
  have HP := hid h
  clear h
  obtain ⟨n, hnn⟩ : ∃ n, L.length = n := ⟨_, rfl⟩
  have HN := hid hnn
  have hl : (x :: L).length = n + 1 := by rw [List.length_cons, hnn]
  have HL := hid hl
  rw [hl] at hc
  rw [hnn] at hn
  clear hnn hl
  go_enter Tryz.func90, Tryz.ntmps90
  go_wp2_with fail
  refine C.out.mono ?_
  rintro e w1 ⟨rfl, hb1⟩
  have HP1 := hid (HP.out.below hb1)
  have HB1 := hid hb1
  have c0 := HP1.out.cell
  have f0 := frozen_of_row w1 g o cur T HP1.out.blk
  have hlt := HP1.out.lt
  rw [HL.out] at c0
  have HS := hid (HP1.out.less HN.out)
  clear hb1 C HP
  have hq : ((n + 1 : Nat) : Int) = (n : Int) + 1 := by omega
  go_wp2_with fail
  go_region
  go_wp2_with fail
  go_ret2
  exact ⟨rfl, ⟨_, HS.out.drew, rfl⟩, (KeepB.of_below _ HB1.out).trans (KeepB.of_set (p := fun k => k = g) _ _ _ rfl).drew⟩

set_option maxHeartbeats 2000000 in
theorem cPiLay (B g o : Nat) (cur : Array Value) (T : TypeId) (v : Value) (x : Nat) (L : List Nat) (w : World) (h : PileI w B g o cur T v L) (hn : L.length ≤ 1048576) :
    Calls Tryz.prog 67 #[.pointer (some ⟨g, o, none⟩), .int .i64 (x : Int)] w fun e w' => e = .returned (.tuple #[]) ∧ (∃ v', PileI w' B g o (cur.setIfInBounds o v') T v' (x :: L)) ∧ Below B w w' := by
  obtain ⟨i0, hi, hz0, hz1, hz2⟩ := info_parts info64
  have c0 := h.cell
  have hlt := h.lt
  have hB : B ≤ w.heap.size := Nat.le_trans h.ge (Nat.le_of_lt hlt)
  have HP := hid (h.below ((Below.refl w.heap.size w).alloc (Nat.le_refl _) (.cells #[.int .i64 (x : Int)] 2)))
  clear h
  go_enter Tryz.func67, Tryz.ntmps67
  go_wp2_with (at_builtin; refine wpList_append_own_at _ rfl _ _ 94 rfl B 2 i0 (.int .i64 0) 1 8 Tryz.underlying94 hi hz0 hz1 hz2 rfl (by decide) _ _ _ rfl HP.out.row ⟨w.heap.size, 0, none⟩ 1 1 [.int .i64 (x : Int)] rfl rfl ?c1 ?c2 ?c3 ?c4 ?c5 ?_)
  case c1 => exact one_cell64 _ _
  case c2 => exact one_one64 _
  case c3 => unfold maxLen; omega
  case c4 => omega
  case c5 => simp; omega
  intro v' w2 hown' hgrow _ hv'
  have hblk := (hgrow.block g (by simp; omega) (fun e => HP.out.own_ne e.symm)).trans HP.out.blk
  have hne : v'.ownBlock ≠ some g := by
    rcases hv' with e | e
    · rw [e]; exact HP.out.own_ne
    · rw [e]; simp; omega
  have HB2 := hid ((((Below.refl B w).alloc hB (.cells #[.int .i64 (x : Int)] 2)).grown hgrow (by simp; omega) (fun k hk => (HP.out.row.lt k hk).1)).setCell (p := ⟨g, o, none⟩) HP.out.ge v')
  have HP2 := hid (PileAt.mk_set (w := w2) HP.out.ge hblk HP.out.at_ HP.out.ne hown' hne)
  have f0 := frozen_of_row w2 g o cur T hblk
  have c2 := show w2.cell? ⟨g, o, none⟩ = some v by rw [Lib.cell_of_heap hblk]; exact HP.out.at_
  obtain ⟨a', c', hvv⟩ := own_len hown'
  have HR := hid (show intC (x :: L).reverse = intC L.reverse ++ [.int .i64 (x : Int)] by rw [List.reverse_cons, intC_app]; rfl)
  subst hvv
  clear hown' hgrow hv' hblk hne c0
  go_wp2_with fail
  go_end0
  have hp := HP2.out
  rw [← HR.out] at hp
  exact ⟨rfl, ⟨_, hp⟩, HB2.out⟩

set_option maxHeartbeats 1000000 in
theorem cTreeOk1 (x : Nat) (P : Int) (b : Nat) (w : World) (hc : w.cell? ⟨b, 0, none⟩ = some (.int .i64 P)) :
    Calls Tryz.prog 62 #[.int .i64 (x : Int), .pointer (some ⟨b, 0, none⟩)] w fun e w' => e = .returned (.bool (decide ((x : Int) = P))) ∧ w' = w := by
  have hd : ((x : Int) == P) = decide ((x : Int) = P) := rfl
  generalize decide ((x : Int) = P) = D at *
  go_enter Tryz.func62, Tryz.ntmps62
  go_wp2
  go_ret
  exact ⟨rfl, rfl⟩

/-- What is not the parent. -/
def notP (P : Int) (x : Nat) : Bool := !decide ((x : Int) = P)

theorem dropWhile_at {α : Type} {p : α → Bool} : ∀ {l : List α} {i : Nat}, (∀ x ∈ l.take i, p x = true) → (∀ h : i < l.length, p l[i] = false) → l.dropWhile p = l.drop i
  | [], i, _, _ => by simp
  | x :: l, 0, _, h => by
    have := h (by simp)
    simp only [List.getElem_cons_zero] at this
    rw [List.dropWhile_cons, this]
    rfl
  | x :: l, i + 1, h1, h2 => by
    rw [List.dropWhile_cons, h1 x (by simp), List.drop_succ_cons]
    simp only [if_true]
    exact dropWhile_at (fun y hy => h1 y (by simp [hy])) (fun h => by have := h2 (by simpa using h); simpa using this)

theorem KeepB.below_of {p : Nat → Prop} {w w1 w' : World} (h : KeepB p w w1) (hb : Below w1.heap.size w1 w') : KeepB p w w' := h.trans (KeepB.of_below p hb)

/-- But for one cell. -/
def SameBut (o : Nat) (c c' : Array Value) : Prop := c'.size = c.size ∧ ∀ j, j ≠ o → c'[j]? = c[j]?

theorem SameBut.refl (o : Nat) (c : Array Value) : SameBut o c c := ⟨rfl, fun _ _ => rfl⟩

theorem SameBut.set {o : Nat} {c c' : Array Value} (h : SameBut o c c') (u : Value) : SameBut o c (c'.setIfInBounds o u) :=
  ⟨by rw [Array.size_setIfInBounds]; exact h.1, fun j hj => by rw [Array.getElem?_setIfInBounds_ne (fun e => hj e.symm)]; exact h.2 j hj⟩

def topI : List Nat → Int
  | [] => 0
  | x :: _ => (x : Int)

theorem cPiTopA (B g o : Nat) (cur : Array Value) (T : TypeId) (v : Value) (L : List Nat) (w : World) (h : PileI w B g o cur T v L) (hn : L.length ≤ 1000) :
    Calls Tryz.prog 89 #[.pointer (some ⟨g, o, none⟩)] w fun e w' => e = .returned (.tuple #[.int .i64 (topI L), .bool (decide (0 < L.length))]) ∧ Below w.heap.size w w' := by
  cases L with
  | nil => exact cPiTop0 B g o cur T v w h
  | cons x L =>
    rw [show decide (0 < (x :: L).length) = true from decide_eq_true (Nat.succ_pos _)]
    exact cPiTop B g o cur T v x L w h (by rw [List.length_cons] at hn; omega)

/-- What downTo knows. -/
structure DownI (w : World) (B g o : Nat) (cur : Array Value) (T : TypeId) (v0 : Value) (L : List Nat) (P : Int) (i : Nat) (wr : World) (v : Value) : Prop where
  no : ∀ x ∈ L.take i, notP P x = true
  pile : ∃ cur' v', PileI wr B g o cur' T v' (L.drop i) ∧ SameBut o cur cur' ∧ v'.ownBlock = v0.ownBlock
  own : wr.ownsRow w.heap.size 2 1 v i (intC (L.take i))
  keep : KeepB (fun k => k = g) w wr

set_option maxRecDepth 8000 in
set_option maxHeartbeats 4000000 in
theorem cPiDown (B g o : Nat) (cur : Array Value) (T : TypeId) (v0 : Value) (L : List Nat) (P : Int) (b : Nat) (w : World) (h : PileI w B g o cur T v0 L) (hn : L.length ≤ 1000) (hb : b < w.heap.size) (hbg : b ≠ g)
    (hc : w.cell? ⟨b, 0, none⟩ = some (.int .i64 P)) :
    Calls Tryz.prog 61 #[.pointer (some ⟨g, o, none⟩), .func (.func 62) #[] #[.pointer (some ⟨b, 0, none⟩)]] w fun e w' => (∃ r, e = .returned r) ∧ (∃ cur' v', PileI w' B g o cur' T v' (L.dropWhile (notP P)) ∧ SameBut o cur cur' ∧ v'.ownBlock = v0.ownBlock) ∧ KeepB (fun k => k = g) w w' := by
  obtain ⟨i0, hi, hz0, hz1, hz2⟩ := info_parts info64
  have HI := hid (And.intro hi (And.intro hz0 (And.intro hz1 hz2)))
  have HP := hid h
  have HC := hid hc
  have HBG := hid hbg
  have HBB := hid hb
  have C0 := hid (cPiTopA B g o cur T v0 L w h hn)
  clear hi hz0 hz1 hz2 h hc hbg hb
  obtain ⟨n, hnn⟩ : ∃ n, L.length = n := ⟨_, rfl⟩
  have HN := hid hnn
  rw [hnn] at hn C0
  clear hnn
  have HT0 := hid (show topI (L.drop 0) = topI L from rfl)
  generalize topI L = t0 at *
  generalize hdd : decide (0 < n) = D0 at *
  have HD0 := hid hdd
  clear hdd
  go_enter Tryz.func61, Tryz.ntmps61
  go_wp2_with fail
  refine C0.out.mono ?_
  rintro e w1 ⟨rfl, hb1⟩
  have HB1 := hid hb1
  clear hb1 C0
  go_wp2_with fail
  go_loopw [5, 6, 7] (fun v x y wr => ∃ i : Nat, i ≤ n ∧ Hid (x = .int .i64 (topI (L.drop i))) ∧ Hid (y = .bool (decide (i < n))) ∧ Hid (DownI w B g o cur T v0 L P i wr v)) (fun v _ _ _ => n - lenV v)
  case atStart => exact ⟨0, Nat.zero_le _, by rw [HT0.out]; exact rfl, by rw [HD0.out]; exact rfl, ⟨fun x hx => absurd hx (by simp), ⟨cur, v0, HP.out.below HB1.out, SameBut.refl _ _, rfl⟩, World.ownsRow_nil _ _ _ _, KeepB.of_below _ HB1.out⟩⟩
  case round =>
    obtain ⟨i, hin, HX, HY, ST⟩ := hrel
    obtain ⟨cur1, v1, hp1, hs1, ho1⟩ := ST.out.pile
    have HP1 := hid hp1
    have HS1 := hid hs1
    have HO1 := hid ho1
    clear hp1 hs1 ho1 HD0 HT0
    have hx := HX.out
    have hy := HY.out
    clear HX HY
    by_cases hlt : i < n
    case neg =>
      rw [decide_eq_false hlt] at hy
      subst hx hy
      have HE := hid (show L.dropWhile (notP P) = L.drop i from dropWhile_at ST.out.no (fun h => absurd h (by rw [HN.out]; exact hlt)))
      obtain ⟨a5, c5, rfl⟩ := own_len ST.out.own
      go_wp2_with fail
      go_ret
      exact ⟨⟨_, rfl⟩, ⟨cur1, v1, by rw [HE.out]; exact HP1.out, HS1.out, HO1.out⟩, ST.out.keep⟩
    have his : i < L.length := by rw [HN.out]; exact hlt
    have HDR := hid (List.drop_eq_getElem_cons his)
    obtain ⟨x, hxx⟩ : ∃ x, L[i] = x := ⟨_, rfl⟩
    have HXX := hid hxx
    rw [hxx] at HDR
    rw [HDR.out] at hx
    rw [decide_eq_true hlt] at hy
    have hx2 : topI (x :: L.drop (i + 1)) = (x : Int) := rfl
    rw [hx2] at hx
    subst hx hy
    clear hxx hx2
    have HPX : Hid (PileI wr B g o cur1 T v1 (x :: L.drop (i + 1))) := by rw [← HDR.out]; exact HP1.out
    have hlen : (L.drop (i + 1)).length = n - (i + 1) := by rw [List.length_drop, HN.out]
    have C1 := hid (cTreeOk1 x P b wr ((World.cell?_of_block (ST.out.keep.block b HBB.out HBG.out)).trans HC.out))
    obtain ⟨a5, c5, hv5⟩ := own_len ST.out.own
    by_cases q : (x : Int) = P
    case pos =>
      have HE := hid (show L.dropWhile (notP P) = L.drop i from dropWhile_at ST.out.no (fun h => by unfold notP; rw [HXX.out, decide_eq_true q]; rfl))
      rw [decide_eq_true q] at C1
      clear q
      subst hv5
      go_wp2_with fail
      refine C1.out.mono ?_
      rintro e w2 ⟨rfl, rfl⟩
      go_wp2_with fail
      go_ret
      exact ⟨⟨_, rfl⟩, ⟨cur1, v1, by rw [HE.out]; exact HP1.out, HS1.out, HO1.out⟩, ST.out.keep⟩
    rw [decide_eq_false q] at C1
    have HNO := hid (show ∀ y ∈ L.take (i + 1), notP P y = true from fun y hy => by
      rw [take_snocN his] at hy
      rcases List.mem_append.1 hy with h' | h'
      · exact ST.out.no y h'
      · rw [List.mem_singleton, HXX.out] at h'
        subst h'
        unfold notP
        rw [decide_eq_false q]
        rfl)
    have HTK := hid (show intC (L.take (i + 1)) = intC (L.take i) ++ [.int .i64 (x : Int)] by rw [take_snocN his, intC_app, HXX.out]; rfl)
    have CT := hid (cPiTake B g o cur1 T v1 x (L.drop (i + 1)) wr HPX.out (by rw [hlen]; omega))
    clear q HDR
    subst hv5
    go_wp2_with fail
    refine C1.out.mono ?_
    rintro e w2 ⟨rfl, rfl⟩
    go_wp2_with fail
    refine CT.out.mono ?_
    rintro e w3 ⟨rfl, ⟨v3, hp3, ho3⟩, hk3⟩
    have HP3 := hid hp3
    have HK3 := hid (ST.out.keep.trans hk3)
    have HO3 := hid (ho3.trans HO1.out)
    have hgl := HP.out.lt
    have HOW := hid ((ST.out.own.kept (row := some g) ⟨hk3.os, hk3.tape, hk3.output, hk3.size, fun k h1 h2 => hk3.block k h1 (fun e => h2 (by rw [e]))⟩ (.inr (fun e => by have := (ST.out.own.lt g e).1; omega))).alloc (.cells #[.int .i64 (x : Int)] 2))
    have HP3A := hid (HP3.out.below ((Below.refl w3.heap.size w3).alloc (Nat.le_refl _) (.cells #[.int .i64 (x : Int)] 2)))
    have hsz := HK3.out.size
    obtain ⟨hi, hz0, hz1, hz2⟩ := HI.out
    clear hp3 hk3 ho3 CT C1
    go_wp2_with (at_builtin; refine wpList_append_own_at _ rfl _ _ 94 rfl w.heap.size 2 i0 (.int .i64 0) 1 8 Tryz.underlying94 hi hz0 hz1 hz2 rfl (by decide) _ _ _ rfl HOW.out ⟨w3.heap.size, 0, none⟩ 1 1 [.int .i64 (x : Int)] rfl rfl ?c1 ?c2 ?c3 ?c4 ?c5 ?_)
    case c1 => exact one_cell64 _ _
    case c2 => exact one_one64 _
    case c3 => unfold maxLen; omega
    case c4 => omega
    case c5 => simp; omega
    intro v4 w4 hown' hgrow _ _
    have HOW4 := hid (show w4.ownsRow w.heap.size 2 1 v4 (i + 1) (intC (L.take (i + 1))) by rw [HTK.out]; exact hown')
    have HK4 := hid (show KeepB (fun k => k = g) w w4 from ⟨hgrow.os.trans HK3.out.os, hgrow.tape.trans HK3.out.tape, hgrow.output.trans HK3.out.output, Nat.le_trans (by simp; omega) hgrow.size, fun k h1 h2 => by
      rw [hgrow.block k (by simp; omega) (fun e => by have := (HOW.out.lt k e.symm).1; omega), Below.heap_alloc _ _ _ (by omega)]
      exact HK3.out.block k h1 h2⟩)
    have HP4 := hid (show PileI w4 B g o (cur1.setIfInBounds o v3) T v3 (L.drop (i + 1)) from ⟨HP3A.out.ge, (hgrow.block g HP3A.out.lt (fun e => by have := (HOW.out.lt g e.symm).1; omega)).trans HP3A.out.blk, HP3A.out.at_, HP3A.out.row.kept hgrow (by
      rcases h5 : v3.ownBlock with _ | k
      · exact .inl rfl
      · refine .inr (fun e => ?_)
        have h6 := (HOW.out.lt k e.symm).1
        rw [HO3.out] at h5
        have := (HP.out.row.lt k h5).2
        omega), HP3A.out.ne⟩)
    have C5 := hid (cPiTopA B g o _ T v3 (L.drop (i + 1)) w4 HP4.out (by rw [hlen]; omega))
    have hl0 : decide (0 < (L.drop (i + 1)).length) = decide (i + 1 < n) := by rw [hlen]; by_cases h : i + 1 < n <;> simp <;> omega
    rw [hl0] at C5
    obtain ⟨a4, c4, hv4⟩ := own_len hown'
    generalize htt : topI (L.drop (i + 1)) = tt at C5
    generalize hdd : decide (i + 1 < n) = dd at C5
    have HTT := hid htt
    have HDD := hid hdd
    subst hv4
    clear hown' hgrow htt hdd hl0
    go_wp2_with fail
    refine C5.out.mono ?_
    rintro e w5 ⟨rfl, hb5⟩
    have HB5 := hid hb5
    clear hb5
    go_wp2_with fail
    go_roundw
    case rel => exact ⟨i + 1, by omega, by rw [HTT.out]; exact rfl, by rw [HDD.out]; exact rfl, ⟨HNO.out, ⟨_, v3, HP4.out.below HB5.out, HS1.out.set _, HO3.out⟩, ownsRow_below HOW4.out HB5.out, HK4.out.below_of HB5.out⟩⟩
    case measure => simp [lenV]; omega

end Go.Proofs.YtcjeodgfpnecgaaGreatDoor
