import Derived.Test.YtkhlhokolfaieaaGreatDoorI5
import Derived.Test.YtkhlhokolfaieaaGreatDoorF5
import Derived.Test.YtkhlhokolfaieaaGreatDoorF6
/-
  The program's server as a server of one connection; Prefix.
-/
namespace Go.Proofs.YtkhlhokolfaieaaGreatDoor
open Go.RowKit Go.MapKept

theorem tab_below {w w' : World} {B : Nat} (hB : w.heap.size ≤ B) (h : Tab w) (hb : Below B w w') : Tab w' := by
  unfold Tab Lib.TabIs World.var? at *
  cases hg : Tryz.prog.globalNamed "internal/strconv.uint64pow10" with
  | none => simp [hg] at h
  | some g =>
    simp only [hg, Option.bind_some] at h ⊢
    have hlt : g < w.heap.size := by
      rcases Nat.lt_or_ge g w.heap.size with h' | h'
      · exact h'
      · rw [Array.getElem?_eq_none h'] at h; simp at h
    rw [hb.block g (by omega)]
    exact h

def takeOf (x : Xs) : Xs × List UInt8 := if x.op = true then (x.took, x.cx.out) else (x, [])
theorem takeOf_op (x : Xs) (h : x.op = true) : takeOf x = (x.took, x.cx.out) := by unfold takeOf; rw [if_pos h]

/-- The program's server of one connection. -/
def theV (B : Nat) : Server1 := {
  X := Xs
  rep := fun F w S x => ∃ p Fc dv uv ov, Sv B F Fc w S p dv uv ov x
  ready := fun x => x.op = true ∧ x.cx.kind ≠ 2 ∧ x.cx.unread = [] ∧ x.cx.out = [] ∧ CInv x.cx ∧ TInv x.L x.u
  feed := Xs.read
  take := takeOf
  isOpen := fun x => x.op }

theorem of_svx {B : Nat} {F : Nat → Prop} {w w' : World} {S : Nat} {p : Ps} {x : Xs} (h : SvX B F w w' S p x) : (theV B).Step F w w' S x := by
  obtain ⟨F', Fc, dv, uv, ov, h1, h2, h3⟩ := h
  exact ⟨F', ⟨p, Fc, dv, uv, ov, h1⟩, h2, h3⟩
theorem of_same {B : Nat} {F : Nat → Prop} {w w' : World} {S : Nat} {x : Xs} (h : (theV B).rep F w S x) (hu : Same w w') : (theV B).Step F w w' S x := by
  obtain ⟨p, Fc, dv, uv, ov, h1⟩ := h
  have := h1.low S h1.own.1
  exact ⟨F, ⟨p, Fc, dv, uv, ov, h1.keep hu (fun _ _ h => h) (fun _ h => h.elim) (by omega)⟩, hu.mono (fun _ _ h => h.elim), fun k hk => Or.inl hk⟩

theorem take_fed {B : Nat} (x : Xs) (b : UInt8) (h : (theV B).ready x) : (theV B).take ((theV B).feed x b) = ((x.read b).took, (x.read b).cx.out) := takeOf_op (x.read b) h.1
theorem fed_unread {B : Nat} (x : Xs) (b : UInt8) (h : (theV B).ready x) : (x.read b).cx.unread = [] := by
  have : (x.read b).cx.unread = x.cx.unread := next_unread _ _ _ _
  rw [this]; exact h.2.2.1
theorem fed_out {B : Nat} (x : Xs) (b : UInt8) (h : (theV B).ready x) : (x.read b).cx.out.length ≤ 400 := by
  obtain ⟨l, h1, h2⟩ := next_out (x := x.cx) h.2.2.2.2.2 false b
  have : (x.read b).cx.out = x.cx.out ++ l := h1
  rw [this, h.2.2.2.1]
  simpa using h2

theorem took_took (y : Xs) : y.took.took = y.took := rfl

theorem theDoes (B : Nat) : (theV B).Does := {
  data := by
    rintro F w S x b ⟨p, Fc, dv, uv, ov, h⟩ hr
    refine (data_any (hid h) hr.1 ⟨#[b]⟩ (by show 1 ≤ 2000000; omega) (hid ?_) hr.2.2.1).mono ?_
    · intro k hk
      have : k = 0 := by have : k < 1 := hk; omega
      subst this
      exact ⟨hr.2.1, by show x.cx.out.length < 250; rw [hr.2.2.2.1]; decide⟩
    · rintro e w' ⟨rfl, hs⟩
      exact ⟨rfl, of_svx hs⟩
  take := by
    rintro F w S x b hr ⟨p, Fc, dv, uv, ov, h⟩
    rw [take_fed x b hr]
    have ho := fed_out x b hr
    refine (Take_open (hid h) hr.1 (fed_unread x b hr) 1073741824 (by omega) (by show (x.read b).cx.out.length ≤ _; omega) (by omega)).mono ?_
    rintro e w' ⟨rfl, hs⟩
    exact ⟨rfl, of_svx hs⟩
  again := by
    rintro F w S x b hr hrep
    rw [take_fed x b hr] at hrep ⊢
    obtain ⟨p, Fc, dv, uv, ov, h⟩ := id hrep
    cases hop : (x.read b).took.op
    · refine (Take_closed (hid h) hop 1073741824).mono ?_
      rintro e w' ⟨rfl, hu⟩
      exact ⟨rfl, of_same hrep hu⟩
    · refine (Take_open (hid h) hop (by rw [took_unread]; exact fed_unread x b hr) 1073741824 (by omega) (by show ([] : List UInt8).length ≤ _; simp) (by omega)).mono ?_
      rintro e w' ⟨rfl, hs⟩
      rw [took_took] at hs
      exact ⟨rfl, of_svx hs⟩
  opened := by
    rintro F w S x hrep
    obtain ⟨p, Fc, dv, uv, ov, h⟩ := id hrep
    refine (open_any (hid h)).mono ?_
    rintro e w' ⟨rfl, hu⟩
    exact ⟨rfl, of_same hrep hu⟩
  small := by
    intro x b hr
    rw [take_fed x b hr]
    have := fed_out x b hr
    show (x.read b).cx.out.length ≤ 1000
    omega
  next := by
    intro x b hr ho
    rw [take_fed x b hr] at ho ⊢
    have ho' : decide ((x.read b).cx.kind ≠ 2) = true := ho
    have hc : CInv (x.read b).cx := hr.2.2.2.2.1.next _ _ _ _
    exact ⟨ho, by show (x.read b).cx.kind ≠ 2; exact of_decide_eq_true ho', by show (x.read b).took.cx.unread = []; rw [took_unread]; exact fed_unread x b hr, rfl, ⟨hc.rd, hc.tag, hc.kind⟩, hr.2.2.2.2.1.nextT hr.2.2.2.2.2 b⟩ }

def theBegins (B : Nat) : (theV B).Begins B := {
  pre := fun w => B ≤ w.heap.size ∧ Tb B w
  fresh := fun F w S => ∃ s m cm, Fr B F w S s m cm
  x0 := x00
  ready0 := ⟨rfl, by decide, rfl, rfl, ⟨RInv.start, by decide, by decide⟩, TInv.nil⟩
  preBelow := fun w w' h hb => ⟨Nat.le_trans h.1 hb.size, h.2.keep (hb.mono h.1)⟩
  keep := by
    rintro F M w w' S x ⟨p, Fc, dv, uv, ov, h⟩ hu hd hM
    have := h.low S h.own.1
    exact ⟨p, Fc, dv, uv, ov, h.keep hu hd hM (by omega)⟩
  keepFresh := by
    rintro F M w w' S ⟨s, m, cm, h⟩ hu hd hM
    exact ⟨s, m, cm, h.keep hu hd hM⟩
  lt := by
    rintro F w S x ⟨p, Fc, dv, uv, ov, h⟩ k hk
    exact (h.low k hk).2
  ltFresh := by
    rintro F w S ⟨s, m, cm, h⟩ k hk
    exact (h.low k hk).2
  news := by
    intro w hp
    refine (new_any B w (hid hp.2) hp.1).mono ?_
    rintro e w' ⟨S, s, m, cm, rfl, h, hu⟩
    exact ⟨S, _, rfl, ⟨s, m, cm, h⟩, hu.below (Nat.le_refl _) (fun _ _ h => h), fun k hk => hk.1⟩
  connect := by
    rintro F w S ⟨s, m, cm, h⟩
    refine (connect_any (hid h)).mono ?_
    rintro e w' ⟨rfl, c, hs⟩
    exact ⟨rfl, of_svx hs⟩ }

theorem prefix_law : PrefixLaw := by
  intro s n w hs ht
  refine prefix_any (theV w.heap.size) (hid (theDoes _)) (theBegins w.heap.size) (hid ?_) s n w hs (hid ⟨Nat.le_refl _, fun w' hb => tab_below (Nat.le_refl _) ht hb⟩) (Nat.le_refl _)
  intro W hp
  exact alive_any w.heap.size W (hid hp.2) hp.1

/-- The statement. -/
theorem prefix_card : Rows.PrefixUptoCardSaid := prefixCard.cardUpto prefix_law

end Go.Proofs.YtkhlhokolfaieaaGreatDoor
