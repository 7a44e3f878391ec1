/- The table of kids: contracts of the program's textKind, kidKinds. What a claim hears of all sayings of a kind: contract of the program's allHeard. Contract of the program's allHeard. -/
import Derived.Test.YtknpgdglabibiaaGreatDoorM28
import Derived.Test.YtknpgdglabibiaaGreatDoorM31
import Derived.Test.YtknpgdglabibiaaGreatDoorM29
import Derived.Laws.EntriesVeiled
namespace Go.Proofs.YtknpgdglabibiaaGreatDoor
open Go.RowKit
set_option linter.unusedVariables false
set_option linter.unusedSimpArgs false

theorem box5 {w : World} {g : Nat} {v0 v1 v2 v3 v4 : Value} {T : TypeId} (h : w.heap[g]? = some (.cells #[v0, v1, v2, v3, v4] T (0, 0))) :
    (w.cell? ⟨g, 0, none⟩ = some v0 ∧ w.cell? ⟨g, 1, none⟩ = some v1 ∧ w.cell? ⟨g, 2, none⟩ = some v2 ∧ w.cell? ⟨g, 3, none⟩ = some v3 ∧ w.cell? ⟨g, 4, none⟩ = some v4) ∧ (w.frozen? ⟨g, 0, none⟩ = false ∧ w.frozen? ⟨g, 1, none⟩ = false ∧ w.frozen? ⟨g, 2, none⟩ = false ∧ w.frozen? ⟨g, 3, none⟩ = false ∧ w.frozen? ⟨g, 4, none⟩ = false) :=
  ⟨⟨by rw [Lib.cell_of_heap h]; rfl, by rw [Lib.cell_of_heap h]; rfl, by rw [Lib.cell_of_heap h]; rfl, by rw [Lib.cell_of_heap h]; rfl, by rw [Lib.cell_of_heap h]; rfl⟩, Lib.frozen_of_heap h 0, Lib.frozen_of_heap h 1, Lib.frozen_of_heap h 2, Lib.frozen_of_heap h 3, Lib.frozen_of_heap h 4⟩

set_option maxHeartbeats 4000000 in
theorem cTextKind (loc : ByteArray) (least : Int) (F : FuncId) (w : World) :
    Calls Tryz.prog 55 #[.string loc, .int .i64 least, .func (.func F) #[] #[]] w fun e w' => ∃ b, w.heap.size ≤ b ∧ e = .returned (.agg #[.string loc, .int .i64 least, .int .i64 1, .func (.func 104) #[] #[.pointer (some ⟨b, 0, none⟩)], .func (.func 105) #[] #[.pointer (some ⟨b, 0, none⟩)]]) ∧ w'.heap[b]? = some (.cells #[.func (.func F) #[] #[]] 87 (0, 0)) ∧ Below w.heap.size w w' := by
  have hmf : ∀ (fn : Fn) (first cap : Array Value) (w : World), (Instr.makeFunc fn first cap).run Tryz.prog w = .ok (.func fn first cap) w := fun _ _ _ _ => rfl
  go_enter Tryz.func55, Tryz.ntmps55
  go_wp2_with fail
  obtain ⟨⟨y0, y1, y2, y3, y4⟩, _⟩ := box5 (q_heap2 w (.cells #[.func (.func F) #[] #[]] 87) (.cells #[.string loc, .int .i64 least, .int .i64 1, .func (.func 104) #[] #[.pointer (some ⟨w.heap.size, 0, none⟩)], .func (.func 105) #[] #[.pointer (some ⟨w.heap.size, 0, none⟩)]] 51))
  refine bodyPost_ret (v := .agg #[.string loc, .int .i64 least, .int .i64 1, .func (.func 104) #[] #[.pointer (some ⟨w.heap.size, 0, none⟩)], .func (.func 105) #[] #[.pointer (some ⟨w.heap.size, 0, none⟩)]]) (by simp [results, Tryz.results55, go_sem, y0, y1, y2, y3, y4]) rfl ⟨w.heap.size, Nat.le_refl _, rfl, blk_alloc (heap_alloc_new _ _) _, ((Below.refl w.heap.size w).alloc (Nat.le_refl _) _).alloc (by simp) _⟩

/-- The table, by where its functions' variables lie. -/
def kC (b0 b1 b3 b4 : Nat) : Array Value := #[.string (localN 0), .int .i64 1, .int .i64 1, .func (.func 104) #[] #[.pointer (some ⟨b0, 0, none⟩)], .func (.func 105) #[] #[.pointer (some ⟨b0, 0, none⟩)], .string (localN 1), .int .i64 1, .int .i64 1, .func (.func 104) #[] #[.pointer (some ⟨b1, 0, none⟩)], .func (.func 105) #[] #[.pointer (some ⟨b1, 0, none⟩)], .string (localN 2), .int .i64 1, .int .i64 1, .func (.func 58) #[] #[], .func (.func 59) #[] #[], .string (localN 3), .int .i64 1, .int .i64 1, .func (.func 104) #[] #[.pointer (some ⟨b3, 0, none⟩)], .func (.func 105) #[] #[.pointer (some ⟨b3, 0, none⟩)], .string (localN 4), .int .i64 0, .int .i64 1, .func (.func 104) #[] #[.pointer (some ⟨b4, 0, none⟩)], .func (.func 105) #[] #[.pointer (some ⟨b4, 0, none⟩)], .string (localN 5), .int .i64 0, .int .i64 4, .func (.func 62) #[] #[], .func (.func 63) #[] #[]]

/-- The table and its variables, as they were made. -/
structure Kinds (w : World) (B g b0 b1 b3 b4 : Nat) : Prop where
  gB : B ≤ g
  B0 : B ≤ b0
  B1 : B ≤ b1
  B3 : B ≤ b3
  B4 : B ≤ b4
  tab : w.heap[g]? = some (.cells (kC b0 b1 b3 b4) 51 (0, 0))
  v0 : w.heap[b0]? = some (.cells #[.func (.func 56) #[] #[]] 87 (0, 0))
  v1 : w.heap[b1]? = some (.cells #[.func (.func 57) #[] #[]] 87 (0, 0))
  v3 : w.heap[b3]? = some (.cells #[.func (.func 60) #[] #[]] 87 (0, 0))
  v4 : w.heap[b4]? = some (.cells #[.func (.func 61) #[] #[]] 87 (0, 0))

theorem Kinds.below {w w' : World} {B g b0 b1 b3 b4 : Nat} (h : Kinds w B g b0 b1 b3 b4) (hb : Below w.heap.size w w') : Kinds w' B g b0 b1 b3 b4 :=
  ⟨h.gB, h.B0, h.B1, h.B3, h.B4, blk_below h.tab hb, blk_below h.v0 hb, blk_below h.v1 hb, blk_below h.v3 hb, blk_below h.v4 hb⟩

set_option maxRecDepth 8000 in
set_option maxHeartbeats 4000000 in
theorem cKidKinds (w : World) :
    Calls Tryz.prog 22 #[] w fun e w' => ∃ g b0 b1 b3 b4, e = .returned (.slice (some ⟨g, 0, none⟩) 6 6) ∧ Kinds w' w.heap.size g b0 b1 b3 b4 ∧ Below w.heap.size w w' := by
  have C := hid cTextKind
  go_enter Tryz.func22, Tryz.ntmps22
  go_wp2_with fail
  refine (C.out _ _ _ _).mono ?_
  rintro e w1 ⟨b0, hb0, rfl, h0, hb1⟩
  have H0 := hid h0
  have HS0 := hid hb0
  have HB1 := hid hb1
  clear hb1 hb0 h0
  go_wp2_with fail
  refine (C.out _ _ _ _).mono ?_
  rintro e w2 ⟨b1, hb1, rfl, h1, hb2⟩
  have H1 := hid h1
  have H02 := hid (blk_below H0.out hb2)
  have HS1 := hid (Nat.le_trans HB1.out.size hb1)
  have HB2 := hid (bb HB1.out hb2)
  clear hb1 hb2 h1 H0 HB1
  go_wp2_with fail
  refine (C.out _ _ _ _).mono ?_
  rintro e w3 ⟨b3, hb3, rfl, h3, hb4⟩
  have H3 := hid h3
  have H03 := hid (blk_below H02.out hb4)
  have H13 := hid (blk_below H1.out hb4)
  have HS3 := hid (Nat.le_trans HB2.out.size hb3)
  have HB3 := hid (bb HB2.out hb4)
  clear hb3 hb4 h3 H02 H1 HB2
  go_wp2_with fail
  refine (C.out _ _ _ _).mono ?_
  rintro e w4 ⟨b4, hb4, rfl, h4, hb5⟩
  have H4 := hid h4
  have H04 := hid (blk_below H03.out hb5)
  have H14 := hid (blk_below H13.out hb5)
  have H34 := hid (blk_below H3.out hb5)
  have HS4 := hid (Nat.le_trans HB3.out.size hb4)
  have HB4 := hid (bb HB3.out hb5)
  clear hb4 hb5 h4 H03 H13 H3 HB3
  go_wp2_with fail
  go_ret
  exact ⟨_, b0, b1, b3, b4, rfl, ⟨HB4.out.size, HS0.out, HS1.out, HS3.out, HS4.out, heap_alloc_new _ _, blk_alloc H04.out _, blk_alloc H14.out _, blk_alloc H34.out _, blk_alloc H4.out _⟩, HB4.out.alloc HB4.out.size _⟩

theorem told_of {F : FuncId} {C : Array Value} {w : World} {c : Cm} {a : Option Addr} {cap : Nat} {l : List Say} {fn : Func} {cd : Code} (hf : Tryz.prog.funcs[F]? = some fn) (hname : (fn.name == "runtime.NumGoroutine") = false) (hb : fn.body = some cd)
    (h : ∀ (wx : World), Below w.heap.size w wx → Calls Tryz.prog F (#[cmV c a cap] ++ C) wx fun e w' => ∃ a' c', e = .returned (.slice a' l.length c') ∧ SayR w' wx.heap.size a' l ∧ Below wx.heap.size wx w') : Told F C w c a cap l :=
  ⟨fun v wx => enters hf hname hb _ wx, h⟩

theorem Told.below {F : FuncId} {C : Array Value} {w w' : World} {c : Cm} {a : Option Addr} {cap : Nat} {l : List Say} (h : Told F C w c a cap l) (hb : Below w.heap.size w w') : Told F C w' c a cap l := ⟨h.1, fun wx hx => h.2 wx (bb hb hx)⟩

/-- A row of the table. -/
theorem kind_at {w : World} {B g b0 b1 b3 b4 : Nat} (h : Kinds w B g b0 b1 b3 b4) (c : Cm) (a : Option Addr) (cap : Nat) (hR : AtRow w a c.facts) (h4 : c.facts.length ≤ 1000) (hL : Laid w) (k : Nat) (hk : k < 6) :
    ∃ (le mo : Int) (F : FuncId) (C : Array Value) (F2 : FuncId) (C2 : Array Value), (w.cell? ⟨g, k * 5, none⟩ = some (.string (localN k)) ∧ w.cell? ⟨g, k * 5 + 1, none⟩ = some (.int .i64 le) ∧ w.cell? ⟨g, k * 5 + 2, none⟩ = some (.int .i64 mo) ∧ w.cell? ⟨g, k * 5 + 3, none⟩ = some (.func (.func F) #[] C) ∧ w.cell? ⟨g, k * 5 + 4, none⟩ = some (.func (.func F2) #[] C2)) ∧ Told F C w c a cap (saysL c (qTx c.frm) (qTx c.til) k) := by
  have t := fun j => Lib.cell_of_heap h.tab j
  match k, hk with
  | 0, _ => exact ⟨_, _, _, _, _, _, ⟨(t 0).trans rfl, (t 1).trans rfl, (t 2).trans rfl, (t 3).trans rfl, (t 4).trans rfl⟩, told_of Tryz.func104 (by kernel_rfl) rfl (fun wx hx => cTold1 b0 _ c a cap wx (blk_below h.v0 hx))⟩
  | 1, _ => exact ⟨_, _, _, _, _, _, ⟨(t 5).trans rfl, (t 6).trans rfl, (t 7).trans rfl, (t 8).trans rfl, (t 9).trans rfl⟩, told_of Tryz.func104 (by kernel_rfl) rfl (fun wx hx => cTold2 b1 _ c a cap wx (blk_below h.v1 hx))⟩
  | 2, _ => exact ⟨_, _, _, _, _, _, ⟨(t 10).trans rfl, (t 11).trans rfl, (t 12).trans rfl, (t 13).trans rfl, (t 14).trans rfl⟩, told_of Tryz.func58 (by kernel_rfl) rfl (fun wx hx => cTermTold c a cap wx (hL.below hx))⟩
  | 3, _ => exact ⟨_, _, _, _, _, _, ⟨(t 15).trans rfl, (t 16).trans rfl, (t 17).trans rfl, (t 18).trans rfl, (t 19).trans rfl⟩, told_of Tryz.func104 (by kernel_rfl) rfl (fun wx hx => cTold3 b3 _ c a cap wx (blk_below h.v3 hx))⟩
  | 4, _ => exact ⟨_, _, _, _, _, _, ⟨(t 20).trans rfl, (t 21).trans rfl, (t 22).trans rfl, (t 23).trans rfl, (t 24).trans rfl⟩, told_of Tryz.func104 (by kernel_rfl) rfl (fun wx hx => cTold4 b4 _ c a cap wx (blk_below h.v4 hx))⟩
  | 5, _ => exact ⟨_, _, _, _, _, _, ⟨(t 25).trans rfl, (t 26).trans rfl, (t 27).trans rfl, (t 28).trans rfl, (t 29).trans rfl⟩, told_of Tryz.func62 (by kernel_rfl) rfl (fun wx hx => cFactsTold c a cap wx (hR.below hx) h4)⟩

end Go.Proofs.YtknpgdglabibiaaGreatDoor

namespace Go.Proofs.YtknpgdglabibiaaGreatDoor
open Go.RowKit
set_option linter.unusedVariables false
set_option linter.unusedSimpArgs false

noncomputable def hearT (s : Say) (nm : ByteArray) : Int × Bool := timeOf ((valF s.attrs nm).getD ByteArray.empty).data.toList

/-- What a saying of the k-th kind makes of a claim. -/
noncomputable def hearC (k : Nat) (c : Cm) (s : Say) : Cm :=
  match k with
  | 0 => { c with iss := s.text }
  | 1 => { c with sub := s.text }
  | 2 => { c with frm := (hearT s fromS).1, til := (hearT s toS).1 }
  | 3 => { c with whom := s.text }
  | 4 => { c with ans := s.text }
  | _ => { c with facts := c.facts ++ [⟨(valF s.attrs nameS).getD ByteArray.empty, s.text⟩] }

/-- It lacks nothing. -/
noncomputable def hearB (k : Nat) (s : Say) : Bool :=
  match k with
  | 2 => (hearT s fromS).2 && (hearT s toS).2
  | 5 => (valF s.attrs nameS).isSome
  | _ => !decide (s.text.size = 0)

theorem hearB_two (s : Say) : hearB 2 s = ((timeOf ((valF s.attrs fromS).getD ByteArray.empty).data.toList).2 && (timeOf ((valF s.attrs toS).getD ByteArray.empty).data.toList).2) := rfl

theorem hearC_two (c : Cm) (s : Say) : hearC 2 c s = { c with frm := (timeOf ((valF s.attrs fromS).getD ByteArray.empty).data.toList).1, til := (timeOf ((valF s.attrs toS).getD ByteArray.empty).data.toList).1 } := rfl

theorem hear_len (k : Nat) (c : Cm) (s : Say) : (hearC k c s).facts.length ≤ c.facts.length + 1 := by
  unfold hearC
  split
  all_goals first | exact Nat.le_succ _ | (simp only [List.length_append, List.length_cons, List.length_nil]; omega)

theorem hear_fold_len (k : Nat) (l : List Say) (c : Cm) : (l.foldl (hearC k) c).facts.length ≤ c.facts.length + l.length := by
  induction l generalizing c with
  | nil => exact Nat.le_refl _
  | cons s l ih =>
    have h1 := ih (hearC k c s)
    have h2 := hear_len k c s
    rw [List.foldl_cons, List.length_cons]
    omega

def HrdPost (k B bc : Nat) (c : Cm) (v : Value) (s : Say) (wx : World) (e : Ending) (w' : World) : Prop :=
  e = .returned (.bool (hearB k s)) ∧ ∃ v', FH B w' bc (hearC k c s) v' (hearC k c s).facts ∧ KeepB (fun j => j = bc ∨ v.ownBlock = some j) wx w' ∧ (v'.ownBlock = v.ownBlock ∨ ∃ j, v'.ownBlock = some j ∧ wx.heap.size ≤ j)

/-- How a function of the table hears. -/
def Heard (F : FuncId) (C : Array Value) (k bc : Nat) (w0 wK : World) : Prop :=
  (∀ p s (wx : World), (callFunc F (#[p, s] ++ C)).run Tryz.prog wx = .ok (.enter F (#[p, s] ++ C)) wx) ∧
  ∀ (wx : World) (c : Cm) (v : Value) (a : Option Addr) (cap : Nat) (s : Say), KeepB (fun j => j = bc) wK wx → Below w0.heap.size w0 wx → FH wK.heap.size wx bc c v c.facts → c.facts.length ≤ 1000 → AtRow wx a s.attrs → AtSz 1048576 s.attrs → s.attrs.length ≤ 1048576 →
    Calls Tryz.prog F (#[.pointer (some ⟨bc, 0, none⟩), .agg #[.slice a s.attrs.length cap, .string s.text]] ++ C) wx (HrdPost k wK.heap.size bc c v s wx)

theorem FH.keep1 {B bc : Nat} {w w' : World} {c c' : Cm} {v : Value} {fl : List At} (h : FH B w bc c v fl) (hc : ClH w' bc c' v) (hk : KeepB (fun j => j = bc) w w') : FH B w' bc c' v fl := by
  refine ⟨hc, ⟨h.own.1, ?_⟩, h.nc⟩
  rcases h.own.2 with h' | ⟨g, cap, cur, k1, k2, k3, k4⟩
  · exact .inl h'
  · exact .inr ⟨g, cap, cur, k1, k2, (hk.block g (lt_of_heap k3) (fun e => h.nc (by rw [k1, ← e]; rfl))).trans k3, k4⟩

theorem hrd_one {k B bc : Nat} {c : Cm} {v : Value} {s : Say} {wx w' : World} {e : Ending} (hF : FH B wx bc c v c.facts) (h1 : e = .returned (.bool (hearB k s))) (h2 : ClH w' bc (hearC k c s) v) (h3 : KeepB (fun j => j = bc) wx w') (h4 : (hearC k c s).facts = c.facts) : HrdPost k B bc c v s wx e w' := by
  refine ⟨h1, v, ?_, h3.mono (fun j e => .inl e), .inl rfl⟩
  rw [h4]
  exact hF.keep1 h2 h3

theorem heard_of {F : FuncId} {C : Array Value} {k bc : Nat} {w0 wK : World} {fn : Func} {cd : Code} (hf : Tryz.prog.funcs[F]? = some fn) (hname : (fn.name == "runtime.NumGoroutine") = false) (hb : fn.body = some cd)
    (h : ∀ (wx : World) (c : Cm) (v : Value) (a : Option Addr) (cap : Nat) (s : Say), KeepB (fun j => j = bc) wK wx → Below w0.heap.size w0 wx → FH wK.heap.size wx bc c v c.facts → c.facts.length ≤ 1000 → AtRow wx a s.attrs → AtSz 1048576 s.attrs → s.attrs.length ≤ 1048576 →
      Calls Tryz.prog F (#[.pointer (some ⟨bc, 0, none⟩), .agg #[.slice a s.attrs.length cap, .string s.text]] ++ C) wx (HrdPost k wK.heap.size bc c v s wx)) : Heard F C k bc w0 wK :=
  ⟨fun p s wx => enters hf hname hb _ wx, h⟩

theorem keep_blk {w w' : World} {bc b : Nat} {o : Obj} (hk : KeepB (fun j => j = bc) w w') (h : w.heap[b]? = some o) (hne : ¬ b = bc) : w'.heap[b]? = some o := (hk.block b (lt_of_heap h) hne).trans h

def leN (k : Nat) : Int := if k < 4 then 1 else 0
def moN (k : Nat) : Int := if k < 5 then 1 else 4

theorem Kinds.keep {w w' : World} {B g b0 b1 b3 b4 bc : Nat} (h : Kinds w B g b0 b1 b3 b4) (hbc : bc < B) (hk : KeepB (fun j => j = bc) w w') : Kinds w' B g b0 b1 b3 b4 := by
  have n := fun (b : Nat) (hb : B ≤ b) => (show ¬ b = bc from fun e => by omega)
  exact ⟨h.gB, h.B0, h.B1, h.B3, h.B4, keep_blk hk h.tab (n _ h.gB), keep_blk hk h.v0 (n _ h.B0), keep_blk hk h.v1 (n _ h.B1), keep_blk hk h.v3 (n _ h.B3), keep_blk hk h.v4 (n _ h.B4)⟩

/-- A row of the table. -/
theorem heard_at {w0 wK wr : World} {B g b0 b1 b3 b4 bc : Nat} (h : Kinds wK B g b0 b1 b3 b4) (hr : Kinds wr B g b0 b1 b3 b4) (hbc : bc < B) (hL : Laid w0) (k : Nat) (hk : k < 6) :
    ∃ (F : FuncId) (C : Array Value) (F2 : FuncId) (C2 : Array Value), (wr.cell? ⟨g, k * 5, none⟩ = some (.string (localN k)) ∧ wr.cell? ⟨g, k * 5 + 1, none⟩ = some (.int .i64 (leN k)) ∧ wr.cell? ⟨g, k * 5 + 2, none⟩ = some (.int .i64 (moN k)) ∧ wr.cell? ⟨g, k * 5 + 3, none⟩ = some (.func (.func F) #[] C) ∧ wr.cell? ⟨g, k * 5 + 4, none⟩ = some (.func (.func F2) #[] C2)) ∧ Heard F2 C2 k bc w0 wK := by
  have t := fun j => Lib.cell_of_heap hr.tab j
  have n0 : ¬ b0 = bc := fun e => by have := h.B0; omega
  have n1 : ¬ b1 = bc := fun e => by have := h.B1; omega
  have n3 : ¬ b3 = bc := fun e => by have := h.B3; omega
  have n4 : ¬ b4 = bc := fun e => by have := h.B4; omega
  match k, hk with
  | 0, _ => exact ⟨_, _, _, _, ⟨(t 0).trans rfl, (t 1).trans rfl, (t 2).trans rfl, (t 3).trans rfl, (t 4).trans rfl⟩, heard_of Tryz.func105 (by kernel_rfl) rfl (fun wx c v a cap s hK hb hF hf hA hz hl => (cHeard1 b0 bc _ c v a _ cap s.text wx (keep_blk hK h.v0 n0) hF.hc n0).mono (fun e w' p => hrd_one hF p.1 p.2.1 p.2.2 rfl))⟩
  | 1, _ => exact ⟨_, _, _, _, ⟨(t 5).trans rfl, (t 6).trans rfl, (t 7).trans rfl, (t 8).trans rfl, (t 9).trans rfl⟩, heard_of Tryz.func105 (by kernel_rfl) rfl (fun wx c v a cap s hK hb hF hf hA hz hl => (cHeard2 b1 bc _ c v a _ cap s.text wx (keep_blk hK h.v1 n1) hF.hc n1).mono (fun e w' p => hrd_one hF p.1 p.2.1 p.2.2 rfl))⟩
  | 2, _ => exact ⟨_, _, _, _, ⟨(t 10).trans rfl, (t 11).trans rfl, (t 12).trans rfl, (t 13).trans rfl, (t 14).trans rfl⟩, heard_of Tryz.func59 (by kernel_rfl) rfl (fun wx c v a cap s hK hb hF hf hA hz hl => (cTermHeard bc c v a cap s.attrs s.text wx hF.hc hA hz hl (hL.below hb)).mono (fun e w' p => hrd_one hF (by rw [hearB_two]; exact p.1) (by rw [hearC_two]; exact p.2.1) p.2.2 (by rw [hearC_two])))⟩
  | 3, _ => exact ⟨_, _, _, _, ⟨(t 15).trans rfl, (t 16).trans rfl, (t 17).trans rfl, (t 18).trans rfl, (t 19).trans rfl⟩, heard_of Tryz.func105 (by kernel_rfl) rfl (fun wx c v a cap s hK hb hF hf hA hz hl => (cHeard3 b3 bc _ c v a _ cap s.text wx (keep_blk hK h.v3 n3) hF.hc n3).mono (fun e w' p => hrd_one hF p.1 p.2.1 p.2.2 rfl))⟩
  | 4, _ => exact ⟨_, _, _, _, ⟨(t 20).trans rfl, (t 21).trans rfl, (t 22).trans rfl, (t 23).trans rfl, (t 24).trans rfl⟩, heard_of Tryz.func105 (by kernel_rfl) rfl (fun wx c v a cap s hK hb hF hf hA hz hl => (cHeard4 b4 bc _ c v a _ cap s.text wx (keep_blk hK h.v4 n4) hF.hc n4).mono (fun e w' p => hrd_one hF p.1 p.2.1 p.2.2 rfl))⟩
  | 5, _ => exact ⟨_, _, _, _, ⟨(t 25).trans rfl, (t 26).trans rfl, (t 27).trans rfl, (t 28).trans rfl, (t 29).trans rfl⟩, heard_of Tryz.func63 (by kernel_rfl) rfl (fun wx c v a cap s hK hb hF hf hA hz hl => (cFactHeard wK.heap.size bc c v c.facts a cap s.attrs s.text wx hF (by omega) hK.size hA hz hl).mono (fun e w' p => by
      obtain ⟨p1, v', p2, p3, p4⟩ := p
      exact ⟨p1, v', ⟨p2.hc, p2.own, p2.nc⟩, p3, p4⟩))⟩

end Go.Proofs.YtknpgdglabibiaaGreatDoor

namespace Go.Proofs.YtknpgdglabibiaaGreatDoor
open Go.RowKit
set_option linter.unusedVariables false
set_option linter.unusedSimpArgs false

/-- The sayings, apart from the claim and its facts. -/
def SayQ (w : World) (B0 bc : Nat) (v : Value) (a : Option Addr) (l : List Say) : Prop := 0 < l.length → ∃ b cu, a = some ⟨b, 0, none⟩ ∧ w.heap[b]? = some (.cells cu 89 (0, 0)) ∧ (¬ b = bc) ∧ (¬ v.ownBlock = some b) ∧ ∀ j (h : j < l.length), ∃ aj cj, cu[j * 2]? = some (.slice aj l[j].attrs.length cj) ∧ cu[j * 2 + 1]? = some (.string l[j].text) ∧ LowAts w B0 aj l[j].attrs

theorem SayT.q {w : World} {B0 B bc : Nat} {v : Value} {a : Option Addr} {l : List Say} (h : SayT w B0 B a l) (hb : bc < B) (hv : ∀ j, v.ownBlock = some j → j < B) : SayQ w B0 bc v a l := fun hl => by
  obtain ⟨b, cu, e1, e2, e3, e4⟩ := h hl
  exact ⟨b, cu, e1, e3, fun e => by omega, fun e => by have := hv b e; omega, e4⟩

theorem LowAts.keep {w w' : World} {B0 : Nat} {p : Nat → Prop} {a : Option Addr} {l : List At} (h : LowAts w B0 a l) (hB : B0 ≤ w.heap.size) (hk : KeepB p w w') (hp : ∀ j, p j → B0 ≤ j) : LowAts w' B0 a l := h.below (hk.below hB hp)

theorem SayQ.keep {w w' : World} {B0 bc : Nat} {v v' : Value} {a : Option Addr} {l : List Say} (h : SayQ w B0 bc v a l) (hB : B0 ≤ w.heap.size) (hbc : B0 ≤ bc) (hv : ∀ j, v.ownBlock = some j → B0 ≤ j) (hk : KeepB (fun j => j = bc ∨ v.ownBlock = some j) w w') (hw : v'.ownBlock = v.ownBlock ∨ ∃ j, v'.ownBlock = some j ∧ w.heap.size ≤ j) : SayQ w' B0 bc v' a l := fun hl => by
  obtain ⟨b, cu, e1, e2, e3, e4, e5⟩ := h hl
  refine ⟨b, cu, e1, (hk.block b (lt_of_heap e2) (fun e => by rcases e with e | e; exact e3 e; exact e4 e)).trans e2, e3, fun e => ?_, fun j hj => ?_⟩
  · rcases hw with hw | ⟨j, hw, hj⟩
    · exact e4 (hw ▸ e)
    · rw [hw] at e
      have := lt_of_heap e2
      have := Option.some.inj e
      omega
  · obtain ⟨aj, cj, y0, y1, y2⟩ := e5 j hj
    exact ⟨aj, cj, y0, y1, y2.keep hB hk (fun j e => by rcases e with e | e; omega; exact hv j e)⟩

theorem SayQ.below {w w' : World} {B0 bc : Nat} {v : Value} {a : Option Addr} {l : List Say} (h : SayQ w B0 bc v a l) (hB : B0 ≤ w.heap.size) (hb : Below w.heap.size w w') : SayQ w' B0 bc v a l := fun hl => by
  obtain ⟨b, cu, e1, e2, e3, e4, e5⟩ := h hl
  exact ⟨b, cu, e1, blk_below e2 hb, e3, e4, fun j hj => by
    obtain ⟨aj, cj, y0, y1, y2⟩ := e5 j hj
    exact ⟨aj, cj, y0, y1, y2.below (hb.mono hB)⟩⟩

/-- Through what was heard, all but the claim stays. -/
theorem keep_heard {w w' wK : World} {bc : Nat} {c : Cm} {v : Value} {fl : List At} (h : KeepB (fun j => j = bc) wK w) (hF : FH wK.heap.size w bc c v fl) (hk : KeepB (fun j => j = bc ∨ v.ownBlock = some j) w w') : KeepB (fun j => j = bc) wK w' :=
  ⟨hk.os.trans h.os, hk.tape.trans h.tape, hk.output.trans h.output, Nat.le_trans h.size hk.size, fun i hi hr => (hk.block i (Nat.lt_of_lt_of_le hi h.size) (fun e => by
    rcases e with e | e
    · exact hr e
    · have := (hF.own.lt i e).1
      omega)).trans (h.block i hi hr)⟩

noncomputable def allB (k : Nat) (le mo : Int) (l : List Say) : Bool := decide (le ≤ (l.length : Int)) && decide ((l.length : Int) ≤ mo) && l.all (hearB k)

def AllPost (k bc : Nat) (wK : World) (c : Cm) (l : List Say) (R : Bool) (e : Ending) (w' : World) : Prop :=
  e = .returned (.bool R) ∧ KeepB (fun j => j = bc) wK w' ∧ (R = true → ∃ v', FH wK.heap.size w' bc (l.foldl (hearC k) c) v' (l.foldl (hearC k) c).facts)

theorem all_take {l : List Say} {k i : Nat} (h : i < l.length) (H : ∀ x ∈ l.take i, hearB k x = true) (e : hearB k l[i] = true) : ∀ x ∈ l.take (i + 1), hearB k x = true := by
  intro x hx
  rw [List.take_succ_eq_append_getElem h] at hx
  rcases List.mem_append.1 hx with hx | hx
  · exact H x hx
  · rw [List.mem_singleton.1 hx]; exact e

set_option maxRecDepth 8000 in
set_option maxHeartbeats 8000000 in
theorem cAllHeard (k bc : Nat) (F : FuncId) (C : Array Value) (w0 wK : World) (H : Heard F C k bc w0 wK) (loc : ByteArray) (le mo : Int) (F1 : FuncId) (C1 : Array Value) (c : Cm) (v : Value) (al : Option Addr) (cl : Nat) (l : List Say) (w : World)
    (hK : KeepB (fun j => j = bc) wK w) (h0K : Below w0.heap.size w0 wK) (h0 : w0.heap.size ≤ bc) (hF : FH wK.heap.size w bc c v c.facts) (hS : SayQ w w0.heap.size bc v al l) (hn : l.length ≤ 900) (hfl : c.facts.length ≤ 50) (hsz : ∀ s ∈ l, AtSz 1048576 s.attrs ∧ s.attrs.length ≤ 1048576) :
    Calls Tryz.prog 23 #[.agg #[.string loc, .int .i64 le, .int .i64 mo, .func (.func F1) #[] C1, .func (.func F) #[] C], .pointer (some ⟨bc, 0, none⟩), .slice al l.length cl] w (AllPost k bc wK c l (allB k le mo l)) := by
  obtain ⟨H1, H2⟩ := H
  have HH := hid H2
  have HK := hid hK
  have H0K := hid h0K
  have HF := hid hF
  have HS := hid hS
  have HZ := hid hsz
  have HX := hid (heap_alloc_new w (.cells #[.string loc, .int .i64 le, .int .i64 mo, .func (.func F1) #[] C1, .func (.func F) #[] C] 51))
  have HB0 := hid ((Below.refl w.heap.size w).alloc (Nat.le_refl _) (.cells #[.string loc, .int .i64 le, .int .i64 mo, .func (.func F1) #[] C1, .func (.func F) #[] C] 51))
  obtain ⟨wa, hwa⟩ : ∃ wa, w.alloc (.cells #[.string loc, .int .i64 le, .int .i64 mo, .func (.func F1) #[] C1, .func (.func F) #[] C] 51) = wa := ⟨_, rfl⟩
  rw [hwa] at HX HB0
  obtain ⟨kb, hkb⟩ : ∃ g, w.heap.size = g := ⟨_, rfl⟩
  rw [hkb] at HX
  have HFa := hid (HF.out.below HB0.out)
  have HKa := hid (HK.out.trans (KeepB.of_below _ HB0.out))
  have hw0w : w0.heap.size ≤ w.heap.size := Nat.le_trans H0K.out.size HK.out.size
  have HSa := hid (HS.out.below hw0w HB0.out)
  have HNB := hid (show ¬ v.ownBlock = some kb from fun e => by have := (hF.own.lt kb e).2; omega)
  have HNC := hid (show ¬ kb = bc from fun e => by have := lt_of_heap hF.hc; omega)
  have HA0 := hid (show allB k le mo l = (decide (le ≤ (l.length : Int)) && decide ((l.length : Int) ≤ mo) && l.all (hearB k)) from rfl)
  generalize allB k le mo l = R at *
  obtain ⟨n, hnn⟩ : ∃ n, l.length = n := ⟨_, rfl⟩
  have HN := hid hnn
  rw [hnn] at hn HA0 ⊢
  clear hnn H2 hK h0K hF hS hsz HF HS HK
  obtain ⟨⟨q0, q1, q2, q3, q4⟩, _⟩ := box5 HX.out
  by_cases h1 : (n : Int) < le
  · obtain rfl : R = false := by rw [HA0.out, decide_eq_false (by omega)]; rfl
    have d1 : decide ((n : Int) < le) = true := decide_eq_true h1
    clear HH
    go_enter Tryz.func23, Tryz.ntmps23
    go_wp2_with fail
    go_ret
    exact ⟨rfl, HKa.out, fun h => by cases h⟩
  · have d1 : decide ((n : Int) < le) = false := decide_eq_false h1
    by_cases h2 : mo < (n : Int)
    · obtain rfl : R = false := by rw [HA0.out, decide_eq_false (show ¬ (n : Int) ≤ mo by omega), Bool.and_false]; rfl
      have d2 : decide (mo < (n : Int)) = true := decide_eq_true h2
      clear HH
      go_enter Tryz.func23, Tryz.ntmps23
      go_wp2_with fail
      go_ret
      exact ⟨rfl, HKa.out, fun h => by cases h⟩
    · have d2 : decide (mo < (n : Int)) = false := decide_eq_false h2
      have HA1 := hid (show R = l.all (hearB k) by rw [HA0.out, decide_eq_true (show le ≤ (n : Int) by omega), decide_eq_true (show (n : Int) ≤ mo by omega)]; rfl)
      clear HA0 h1 h2
      go_enter Tryz.func23, Tryz.ntmps23
      go_wp2_with fail
      clear q0 q1 q2 q3 q4 hwa
      go_loopw [23] (fun x wr => ∃ (i : Nat) (v : Value), x = .int .i64 (i : Int) ∧ i ≤ n ∧ Hid (FH wK.heap.size wr bc ((l.take i).foldl (hearC k) c) v ((l.take i).foldl (hearC k) c).facts) ∧ Hid (KeepB (fun j => j = bc) wK wr) ∧ Hid (wr.heap[kb]? = some (.cells #[.string loc, .int .i64 le, .int .i64 mo, .func (.func F1) #[] C1, .func (.func F) #[] C] 51 (0, 0)) ∧ ¬ v.ownBlock = some kb) ∧ Hid (SayQ wr w0.heap.size bc v al l) ∧ Hid (∀ x ∈ l.take i, hearB k x = true)) (fun x _ => n - (intOf x).toNat)
      case atStart => exact ⟨0, v, rfl, Nat.zero_le _, HFa.out, HKa.out, ⟨HX.out, HNB.out⟩, HSa.out, fun x hx => by simp at hx⟩
      case round =>
        clear HFa HKa HX HNB HSa HB0
        obtain ⟨i, v, rfl, hi, HF, HK, HX, HS, HO⟩ := hrel
        by_cases hlt : i < n
        · have his : i < l.length := by rw [HN.out]; exact hlt
          have hin : (i : Int) < (n : Int) := by omega
          obtain ⟨sb, cu, rfl, hsb, hs1, hs2, hat⟩ := HS.out (by omega)
          obtain ⟨aj, cj, y0, y1, hya⟩ := hat i his
          have z0 : wr.cell? ⟨sb, i * 2, none⟩ = some (.slice aj l[i].attrs.length cj) := by rw [Lib.cell_of_heap hsb]; exact y0
          have z1 : wr.cell? ⟨sb, i * 2 + 1, none⟩ = some (.string l[i].text) := by rw [Lib.cell_of_heap hsb]; exact y1
          have HYA := hid hya
          have HT := hid (fun e => all_take his HO.out e)
          have HFD := hid (show (l.take (i + 1)).foldl (hearC k) c = hearC k ((l.take i).foldl (hearC k) c) l[i] by rw [List.take_succ_eq_append_getElem his, List.foldl_append]; rfl)
          have HFF := hid (fun (e : hearB k l[i] = false) => (List.all_eq_false.2 ⟨l[i], List.getElem_mem his, by simp [e]⟩ : l.all (hearB k) = false))
          have HFL := hid (show ((l.take i).foldl (hearC k) c).facts.length ≤ 1000 by have h := hear_fold_len k (l.take i) c; rw [List.length_take] at h; omega)
          have HZi := hid (HZ.out _ (List.getElem_mem his))
          clear hsb hs1 hs2 hat y0 y1 hya
          generalize l[i] = sy at *
          generalize (l.take i).foldl (hearC k) c = ci at *
          have HBa := hid ((Below.refl wr.heap.size wr).alloc (Nat.le_refl _) (.cells #[.slice aj sy.attrs.length cj, .string sy.text] 89))
          have Ha1 := hid (heap_alloc_new wr (.cells #[.slice aj sy.attrs.length cj, .string sy.text] 89))
          obtain ⟨wb, hwb⟩ : ∃ wb, wr.alloc (.cells #[.slice aj sy.attrs.length cj, .string sy.text] 89) = wb := ⟨_, rfl⟩
          rw [hwb] at HBa Ha1
          obtain ⟨⟨p0, p1⟩, _⟩ := q_box2 Ha1.out
          obtain ⟨⟨q0, q1, q2, q3, q4⟩, _⟩ := box5 (blk_below HX.out.1 HBa.out)
          have hw0r : w0.heap.size ≤ wr.heap.size := Nat.le_trans H0K.out.size HK.out.size
          have HKb := hid (HK.out.trans (KeepB.of_below _ HBa.out))
          have HBw := hid (show Below w0.heap.size w0 wb from H0K.out.trans (HKb.out.below H0K.out.size (fun j e => by omega)))
          have HFb := hid (HF.out.below HBa.out)
          have HSb := hid (HS.out.below hw0r HBa.out)
          have hw0b : w0.heap.size ≤ wb.heap.size := Nat.le_trans hw0r HBa.out.size
          have CW := hid (HH.out wb ci v aj cj sy HKb.out HBw.out HFb.out HFL.out ((HYA.out.below (HBa.out.mono hw0r)).atRow hw0b) HZi.out.1 HZi.out.2)
          have HXb := hid (And.intro (blk_below HX.out.1 HBa.out) HX.out.2)
          clear HBa Ha1 HYA HZi HX HF HS HK
          go_wp2_with fail
          refine CW.out.mono ?_
          rintro e w3 ⟨rfl, v', hf3, hk3, hv3⟩
          have HK3 := hid (keep_heard HKb.out HFb.out hk3)
          have HF3 := hid hf3
          have HS3 := hid (HSb.out.keep hw0b h0 (fun j e => Nat.le_trans H0K.out.size (HFb.out.own.lt j e).1) hk3 hv3)
          have HX3 := hid (show w3.heap[kb]? = some (.cells #[.string loc, .int .i64 le, .int .i64 mo, .func (.func F1) #[] C1, .func (.func F) #[] C] 51 (0, 0)) ∧ ¬ v'.ownBlock = some kb from ⟨(hk3.block kb (lt_of_heap HXb.out.1) (fun e => by rcases e with e | e; exact HNC.out e; exact HXb.out.2 e)).trans HXb.out.1, fun e => by
            rcases hv3 with h | ⟨j, h, hj⟩
            · exact HXb.out.2 (h ▸ e)
            · rw [h] at e
              have := lt_of_heap HXb.out.1
              have := Option.some.inj e
              omega⟩)
          rw [← HFD.out] at HF3
          clear hf3 hk3 hv3 CW HSb HXb HFb HKb HBw hwb p0 p1 q0 q1 q2 q3 q4 z0 z1
          generalize hearB k sy = b at *
          cases b with
          | false =>
            obtain rfl : R = false := HA1.out.trans (HFF.out rfl)
            go_wp2_with fail
            go_ret
            exact ⟨rfl, HK3.out, fun h => by cases h⟩
          | true =>
            have HT1 := hid (HT.out rfl)
            go_wp2_with fail
            go_roundw
            case rel => exact ⟨i + 1, v', by go_num, by omega, HF3.out, HK3.out, HX3.out, HS3.out, HT1.out⟩
            case measure => simp [intOf]; omega
        · have hie : i = n := by omega
          subst hie
          have hle : l.take i = l := List.take_of_length_le (by rw [HN.out]; exact Nat.le_refl _)
          obtain rfl : R = true := HA1.out.trans (List.all_eq_true.2 (fun x hx => HO.out x (by rw [hle]; exact hx)))
          rw [hle] at HF
          clear hle
          go_wp2_with fail
          go_ret
          exact ⟨rfl, HK.out, fun _ => ⟨v, HF.out⟩⟩

end Go.Proofs.YtknpgdglabibiaaGreatDoor
