/- A region that draws its order within a round of a range over a function: it is walked as outside of one, where it holds no defer. -/
import Derived.OrdersIn
import Derived.AtR
import Derived.RangeFuncCalls
namespace Go.Proofs.YtgnphekelklchaaDoor

theorem op_inRound {F : Fence} {l n : Nat} {P : Program} {o : Oper} {a : Act} {w : World} {K : Act → World → Prop} {Q : Exit → Act → World → Prop} (hro : F.round = none) (hd : ∀ c, o.op ≠ .defer c)
    (h : o.wpIn F n P a w K Q) : o.wpIn (F.inRound l) n P a w K Q := by
  refine ⟨h.1, ?_⟩
  have h2 := h.2
  rw [hro, Oper.semAt_eq _ _ _ hd] at h2
  rw [Oper.semAt_eq _ _ _ hd]
  exact h2

/-- No operation of the region is a defer. -/
def noDefer (ops : Array Oper) : Bool := ops.all fun o => match o.op with
  | .defer _ => false
  | _ => true

theorem noDefer_spec {ops : Array Oper} (h : noDefer ops = true) {i : Nat} {o : Oper} (hi : ops[i]? = some o) : ∀ c, o.op ≠ .defer c := by
  intro c hc
  have h1 := Array.all_eq_true.1 h
  obtain ⟨hlt, he⟩ := Array.getElem?_eq_some_iff.1 hi
  have h2 := h1 i hlt
  rw [he, hc] at h2
  cases h2

theorem anyR {F : Fence} {l n : Nat} {P : Program} {ops : Array Oper} {Q : Exit → Act → World → Prop} {md : Region.Mode} (hro : F.round = none) (hd : noDefer ops = true) :
    ∀ {fuel : Nat} {listed : Array Bool} {a : Act} {w : World}, wpAnyIn F n P md ops Q fuel listed a w → wpAnyIn (F.inRound l) n P md ops Q fuel listed a w := by
  intro fuel
  induction fuel with
  | zero => intro listed a w h; exact h
  | succ fuel ih =>
    intro listed a w h
    refine ⟨h.1, fun i hi => ?_⟩
    have h1 := h.2 i hi
    unfold wpOpIn at h1 ⊢
    cases ho : ops[i]? with
    | none => rw [ho] at h1; exact ih h1
    | some o =>
      rw [ho] at h1
      simp only at h1 ⊢
      split
      · rename_i hw
        rw [if_pos hw] at h1
        exact op_inRound hro (noDefer_spec hd ho) (Oper.wpIn_mono (fun a w => ih) h1)
      · rename_i hw
        rw [if_neg hw] at h1
        exact ⟨h1.1, ih h1.2⟩

theorem cutP {A G : Prop} (walk : G → A) (rest : G) : A := walk rest

end Go.Proofs.YtgnphekelklchaaDoor
