import Derived.Test.YtkhlhokolfaieaaGreatDoorG3
/-
  What a connection tells of itself: listens, isBlocked, reads, isDone.
-/
namespace Go.Proofs.YtkhlhokolfaieaaGreatDoor
open Go.RowKit Go.MapKept

abbrev Same (w w' : World) : Prop := Upd (fun _ => False) w w'

set_option maxHeartbeats 400000 in
theorem restingListens (w : World) : Calls Tryz.prog 97 #[.agg #[]] w fun e w' => e = .returned (.bool true) ∧ Same w w' := by
  go_enter Tryz.func97, Tryz.ntmps97
  go_wp2
  go_ret
  exact ⟨rfl, by first | exact Upd.refl _ w | exact (Upd.refl _ w).alloc _⟩
set_option maxHeartbeats 400000 in
theorem readingListens (r : Nat) (w : World) : Calls Tryz.prog 174 #[.agg #[.pointer (some ⟨r, 0, none⟩)]] w fun e w' => e = .returned (.bool true) ∧ Same w w' := by
  go_enter Tryz.func174, Tryz.ntmps174
  go_wp2
  go_ret
  exact ⟨rfl, by first | exact Upd.refl _ w | exact (Upd.refl _ w).alloc _⟩
set_option maxHeartbeats 400000 in
theorem leavingListens (w : World) : Calls Tryz.prog 169 #[.agg #[]] w fun e w' => e = .returned (.bool false) ∧ Same w w' := by
  go_enter Tryz.func169, Tryz.ntmps169
  go_wp2
  go_ret
  exact ⟨rfl, by first | exact Upd.refl _ w | exact (Upd.refl _ w).alloc _⟩

/-- listens, called through the interface. -/
def Lst (dv : Value) (q : Bool) : Prop := ∃ ty rv f, dv = .iface ty rv ∧ (∀ W : World, (method 312 ty rv "hearth/hearth.listens").run Tryz.prog W = .ok (f, rv) W) ∧ Ent f ∧ ∀ W, Calls Tryz.prog f #[rv] W fun e w' => e = .returned (.bool q) ∧ Same W w'

theorem listens_calls {F : Nat → Prop} {w : World} {c : Nat} {x : CX} {dv uv ov : Value} (h : Cn F w c x dv uv ov) : Lst dv (decide (x.kind ≠ 2)) := by
  rcases h.doing with ⟨h1, rfl⟩ | ⟨h1, h2, h3, r, Fr, rfl, h5, h6⟩ | ⟨h1, rfl⟩
  · rw [h1]
    exact ⟨_, _, 97, rfl, fun W => by kernel_rfl, enters_of Tryz.func97 (by kernel_rfl) rfl, restingListens⟩
  · rw [h1]
    exact ⟨_, _, 174, rfl, fun W => by kernel_rfl, enters_of Tryz.func174 (by kernel_rfl) rfl, readingListens r⟩
  · rw [h1]
    exact ⟨_, _, 169, rfl, fun W => by kernel_rfl, enters_of Tryz.func169 (by kernel_rfl) rfl, leavingListens⟩

theorem row_slice {w : World} {v : Value} {bs : List UInt8} (h : Row w v bs) : ∃ ao cp, v = .slice ao bs.length cp := by
  rcases h.form with ⟨h1, h2⟩ | ⟨g, cap, h1⟩
  · subst h2; exact ⟨_, _, h1⟩
  · exact ⟨_, _, h1⟩

set_option maxHeartbeats 400000 in
theorem isBlocked_any {F : Nat → Prop} {w : World} {c : Nat} {x : CX} {dv uv ov : Value} (h : Hid (Cn F w c x dv uv ov)) (hl : x.out.length ≤ 1000000) :
    Calls Tryz.prog 46 #[.pointer (some ⟨c, 0, none⟩)] w fun e w' => e = .returned (.bool (decide (250 ≤ x.out.length))) ∧ Same w w' := by
  obtain ⟨c0, c1, c2, f0, f1, f2⟩ := h.out.blk'
  obtain ⟨ao, cp, rfl⟩ := row_slice h.out.ro
  go_enter Tryz.func46, Tryz.ntmps46
  go_wp2
  go_ret
  refine ⟨ret_bool ?_, Upd.refl _ w⟩
  simp
  omega

set_option maxHeartbeats 800000 in
set_option maxRecDepth 100000 in
theorem reads_any {F : Nat → Prop} {w : World} {c : Nat} {x : CX} {dv uv ov : Value} (h : Hid (Cn F w c x dv uv ov)) (hl : x.out.length ≤ 1000000) :
    Calls Tryz.prog 31 #[.pointer (some ⟨c, 0, none⟩)] w fun e w' => e = .returned (.bool (decide (x.kind ≠ 2 ∧ x.out.length < 250))) ∧ Same w w' := by
  obtain ⟨c0, c1, c2, f0, f1, f2⟩ := h.out.blk'
  obtain ⟨ty, rv, f, rfl, hm, hent, hc⟩ := listens_calls h.out
  have HC := hid hc
  clear hc
  cases hq : decide (x.kind ≠ 2)
  · have hk : x.kind = 2 := by simpa using hq
    rw [hq] at HC
    have HR : Hid (decide (x.kind ≠ 2 ∧ x.out.length < 250) = false) := by show _ = _; simp [hk]
    clear hq hk
    rw [HR.out]
    go_enter Tryz.func31, Tryz.ntmps31
    go_wp2_with fail
    refine (HC.out w).mono ?_
    rintro e w1 ⟨rfl, hu⟩
    have HU := hid hu
    clear hu
    go_wp2
    go_ret
    exact ⟨rfl, HU.out⟩
  · have hk : x.kind ≠ 2 := by simpa using hq
    rw [hq] at HC
    have HR : Hid (decide (x.kind ≠ 2 ∧ x.out.length < 250) = !decide (250 ≤ x.out.length)) := by
      show _ = _
      by_cases h2 : 250 ≤ x.out.length
      · simp [h2, Nat.not_lt.2 h2]
      · simp [h2, hk]; omega
    clear hq hk
    rw [HR.out]
    go_enter Tryz.func31, Tryz.ntmps31
    go_wp2_with fail
    refine (HC.out w).mono ?_
    rintro e w1 ⟨rfl, hu⟩
    have H1 := hid (h.out.keep hu (fun _ _ h => h))
    have HU := hid hu
    clear hu
    go_wp2_with fail
    refine (isBlocked_any H1 hl).mono ?_
    rintro e w2 ⟨rfl, hu⟩
    have HU2 := hid (HU.out.trans hu)
    clear hu
    go_wp2
    go_ret
    exact ⟨rfl, HU2.out⟩

set_option maxHeartbeats 800000 in
set_option maxRecDepth 100000 in
theorem isDone_any {F : Nat → Prop} {w : World} {c : Nat} {x : CX} {dv uv ov : Value} (h : Hid (Cn F w c x dv uv ov)) :
    Calls Tryz.prog 38 #[.pointer (some ⟨c, 0, none⟩)] w fun e w' => e = .returned (.bool (decide (x.kind = 2 ∧ x.out = []))) ∧ Same w w' := by
  obtain ⟨c0, c1, c2, f0, f1, f2⟩ := h.out.blk'
  obtain ⟨ty, rv, f, rfl, hm, hent, hc⟩ := listens_calls h.out
  obtain ⟨ao, cp, hov⟩ := row_slice h.out.ro
  have HC := hid hc
  clear hc
  cases hq : decide (x.kind ≠ 2)
  · have hk : x.kind = 2 := by simpa using hq
    rw [hq] at HC
    have HR : Hid (decide (x.kind = 2 ∧ x.out = []) = decide ((x.out.length : Int) = 0)) := by show _ = _; simp [hk]
    clear hq hk
    rw [HR.out]
    go_enter Tryz.func38, Tryz.ntmps38
    go_wp2_with fail
    refine (HC.out w).mono ?_
    rintro e w1 ⟨rfl, hu⟩
    have d2 : w1.cell? ⟨c, 2, none⟩ = some ov := (hu.cell (lt_of_heap h.out.blk) (fun h => h)).trans c2
    rw [hov] at d2
    have HU := hid hu
    clear hu
    go_wp2
    go_ret
    exact ⟨by first | rfl | (refine ret_bool ?_; simp), HU.out⟩
  · have hk : x.kind ≠ 2 := by simpa using hq
    rw [hq] at HC
    have HR : Hid (decide (x.kind = 2 ∧ x.out = []) = false) := by show _ = _; simp [hk]
    clear hq hk
    rw [HR.out]
    go_enter Tryz.func38, Tryz.ntmps38
    go_wp2_with fail
    refine (HC.out w).mono ?_
    rintro e w1 ⟨rfl, hu⟩
    have HU := hid hu
    clear hu
    go_wp2
    go_ret
    exact ⟨rfl, HU.out⟩

end Go.Proofs.YtkhlhokolfaieaaGreatDoor
