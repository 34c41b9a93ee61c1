import Derived.Test.YtohoddhegkjehaaGreatDoorB6
/-
  readFields' closure; Read.
-/
namespace Go.Proofs.YtohoddhegkjehaaGreatDoor
open Go.RowKit

theorem Made.bind {F F' : Nat → Prop} {w w1 w2 : World} {r : Nat} {σ : RS} {nv sv : Value} (h : Made F' w1 w2 r σ nv sv) (hu : Upd F w w1) (hf : ∀ k, F' k → F k ∨ (w.heap.size ≤ k ∧ k < w1.heap.size)) : Made F w w2 r σ nv sv := by
  obtain ⟨F2, h1, h2, h3⟩ := h
  refine ⟨F2, h1, ⟨h2.os.trans hu.os, h2.tape.trans hu.tape, h2.output.trans hu.output, Nat.le_trans hu.size h2.size, fun k hk hn => (h2.block k (Nat.lt_of_lt_of_le hk hu.size) (fun e => ?_)).trans (hu.block k hk hn)⟩, fun k hk => ?_⟩
  · rcases hf k e with h4 | h4
    · exact hn h4
    · omega
  · rcases h3 k hk with h4 | h4
    · rcases hf k h4 with h5 | h5
      · exact Or.inl h5
      · right; have := h2.size; omega
    · right; have := hu.size; omega

def RS.fields (σ : RS) (b : UInt8) : RS := if b = 13 then σ.fresh 7 else (({ σ with name := [], value := [] } : RS).fresh 5).piece b

theorem good_name {σ : RS} (g : Good σ) : Good (({ σ with name := [], value := [] } : RS).fresh 5) := {
  tag := by show 5 ≤ 10; omega
  met := fun _ => by show 0 < (endOf 5).size; decide
  ph := by show 0 ≤ 1; omega
  kept := fun _ => by show 0 ≤ _; omega
  least := fun _ h => by exact absurd h (by show ¬ 0 = 1; omega)
  size := by
    rintro f hf
    have := g.size f hf
    rcases hf with rfl | rfl | rfl | rfl | rfl | rfl
    · exact this
    · exact this
    · show ([] : List UInt8).length ≤ 200; simp
    · show ([] : List UInt8).length ≤ 200; simp
    · exact this
    · exact this
  room := fun _ => by show 20 ≤ 200; omega
  name := by intro c hc; cases hc
  value := by intro c hc; cases hc
  signs := g.signs
  four := g.four
  got := fun h => by exact absurd h (by show ¬ 5 = 8; omega)
  len := g.len }

theorem exactly7_makes {F : Nat → Prop} {w : World} {r : Nat} {σ : RS} {nv : Value} {R : Nat → Value} (h : RdrB F w r σ nv R) : Makes 116 #[.pointer (some ⟨r, 0, none⟩), .string ((⟨#[13, 10]⟩ : ByteArray).extract 1 2), .func (.func 117) #[.pointer (some ⟨r, 0, none⟩)] #[]] F w r (σ.fresh 7) nv := by
  have hx : (⟨#[13, 10]⟩ : ByteArray).extract 1 2 = ⟨#[10]⟩ := by decide
  rw [hx]
  refine Calls.mono (exactly_any r _ _ _ w) ?_
  rintro e w' ⟨rfl, rfl⟩
  exact ⟨_, rfl, made_piece h (Upd.refl _ _) 7 (by omega)⟩

set_option maxHeartbeats 400000 in
theorem fields_makes (hP : Hid ParseHex) {F : Nat → Prop} {w : World} {r q : Nat} {σ : RS} {nv : Value} {R : Nat → Value} (h : Hid (RdrB F w r σ nv R)) (hq : w.heap[q]? = some (.cells #[.pointer (some ⟨r, 0, none⟩)] 147 (0, 0))) (g : Hid (Good σ)) (b : UInt8) :
    Makes 115 #[.int .u8 b.toNat, .pointer (some ⟨q, 0, none⟩)] F w r (σ.fields b) nv := by
  have hmf : ∀ (fn : Fn) (first cap : Array Value) (w : World), (Instr.makeFunc fn first cap).run Tryz.prog w = .ok (.func fn first cap) w := fun _ _ _ _ => rfl
  have cq : w.cell? ⟨q, 0, none⟩ = some (.pointer (some ⟨r, 0, none⟩)) := cell_of_heap hq 0
  clear hq
  unfold Makes
  by_cases hb : b = 13
  · have HS : Hid (σ.fields b = σ.fresh 7) := by show _ = _; unfold RS.fields; rw [if_pos hb]
    subst hb
    go_enter Tryz.func115, Tryz.ntmps115
    go_wp2
    go_region_with (go_at_call 116; refine Calls.mono (exactly7_makes (h.out.keep (Upd.refl (fun _ => False) w).drew (fun _ _ h => h))) ?_; rintro e w2 ⟨sv, rfl, hm⟩; have HM : Hid (Made F w w2 r (σ.fresh 7) nv sv) := hm.from (Upd.refl _ w).drew; clear hm)
    all_goals
      go_wp2
      go_ret
      rw [HS.out]
      exact ⟨_, rfl, HM.out⟩
  · have HS : Hid (σ.fields b = (({ σ with name := [], value := [] } : RS).fresh 5).piece b) := by show _ = _; unfold RS.fields; rw [if_neg hb]
    have hb' : ((b.toNat : Int) == (((⟨#[13, 10]⟩ : ByteArray)[0]'(by decide)).toNat : Int)) = false := by
      rw [beq_eq_false_iff_ne]
      intro e
      have e' : (b.toNat : Int) = 13 := e
      exact hb (UInt8.toNat_inj.1 (by show b.toNat = 13; omega))
    clear hb
    go_enter Tryz.func115, Tryz.ntmps115
    go_wp2_with fail
    refine Calls.mono (readName_makes h.out) ?_
    rintro e w1 ⟨sv, rfl, F1, ⟨⟨R1, hB1⟩, hC1⟩, hU1, hf1⟩
    obtain ⟨B, rfl, hclo, hF1⟩ : ∃ B, sv = cloV B ∧ CloOf w1 B r (({ σ with name := [], value := [] } : RS).fresh 5) ∧ ∀ k, B ≤ k → k < B + 8 → F1 k := hC1
    have HM : Hid (Makes 111 (cloArgs b.toNat B) F1 w1 r ((({ σ with name := [], value := [] } : RS).fresh 5).piece b) nv) := piece_makes hP hB1 hclo hF1 (by show 3 ≤ 5; omega) (good_name g.out) b
    have HU : Hid (Upd F w w1) := hU1
    have HF : Hid (∀ k, F1 k → F k ∨ (w.heap.size ≤ k ∧ k < w1.heap.size)) := hf1
    clear hclo hF1 hB1 hU1 hf1
    unfold cloV
    go_wp2_with fail
    refine Calls.mono HM.out ?_
    rintro e w2 ⟨sv2, rfl, hm⟩
    have HM2 : Hid (Made F w w2 r ((({ σ with name := [], value := [] } : RS).fresh 5).piece b) nv sv2) := hm.bind HU.out HF.out
    clear hm
    go_wp2
    go_ret
    rw [HS.out]
    exact ⟨sv2, rfl, HM2.out⟩

end Go.Proofs.YtohoddhegkjehaaGreatDoor
