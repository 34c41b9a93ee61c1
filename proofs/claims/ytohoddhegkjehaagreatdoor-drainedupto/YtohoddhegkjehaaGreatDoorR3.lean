import Derived.Test.YtohoddhegkjehaaGreatDoorR1
/-
  A script on a server.
-/
namespace Go.Proofs.YtohoddhegkjehaaGreatDoor
open Go.RowKit Go.MapKept

/-- A step of a script. -/
structure OpD where
  kind : Int
  id : Int
  n : Int
  s : ByteArray

/-- A row of steps that was there at w, below B. -/
inductive OpsAt (B : Nat) (w : World) : Value → List OpD → Prop where
  | none : OpsAt B w (.slice none 0 0) []
  | empty (a : Addr) (cap : Nat) : OpsAt B w (.slice (some a) 0 cap) []
  | some (b off cap : Nat) (os : List OpD) (hb : b < B) (hc : ∀ i o, os[i]? = some o → w.cell? ⟨b, off + i * 4, none⟩ = some (.int .i64 o.kind) ∧ w.cell? ⟨b, off + i * 4 + 1, none⟩ = some (.int .i64 o.id) ∧ w.cell? ⟨b, off + i * 4 + 2, none⟩ = some (.int .i64 o.n) ∧ w.cell? ⟨b, off + i * 4 + 3, none⟩ = some (.string o.s)) : OpsAt B w (.slice (some ⟨b, off, none⟩) os.length cap) os
theorem OpsAt.keep {B : Nat} {w w' : World} {v : Value} {os : List OpD} (h : OpsAt B w v os) (hb : Below B w w') : OpsAt B w' v os := by
  cases h with
  | none => exact .none
  | empty a cap => exact .empty a cap
  | some b off cap os hlt hc => exact .some b off cap os hlt (fun i o ho => by
      obtain ⟨h1, h2, h3, h4⟩ := hc i o ho
      exact ⟨(hb.cell hlt).trans h1, (hb.cell hlt).trans h2, (hb.cell hlt).trans h3, (hb.cell hlt).trans h4⟩)
theorem OpsAt.form {B : Nat} {w : World} {v : Value} {os : List OpD} (h : OpsAt B w v os) : ∃ ao cap, v = .slice ao os.length cap := by
  cases h with
  | none => exact ⟨_, _, rfl⟩
  | empty a cap => exact ⟨_, _, rfl⟩
  | some b off cap os hlt hc => exact ⟨_, _, rfl⟩
theorem OpsAt.get {B : Nat} {w : World} {ao : Option Addr} {n cap : Nat} {os : List OpD} (h : OpsAt B w (.slice ao n cap) os) {i : Nat} (hi : i < os.length) : ∃ b off, ao = .some ⟨b, off, .none⟩ ∧ w.cell? ⟨b, off + i * 4, .none⟩ = .some (.int .i64 os[i].kind) ∧ w.cell? ⟨b, off + i * 4 + 1, .none⟩ = .some (.int .i64 os[i].id) ∧ w.cell? ⟨b, off + i * 4 + 2, .none⟩ = .some (.int .i64 os[i].n) ∧ w.cell? ⟨b, off + i * 4 + 3, .none⟩ = .some (.string os[i].s) := by
  generalize hv : Value.slice ao n cap = v at h
  cases h with
  | none => simp at hi
  | empty a cap => simp at hi
  | some b off cap os hlt hc =>
    injection hv with h1 h2 h3
    exact ⟨b, off, h1, hc i os[i] (List.getElem?_eq_getElem hi)⟩

section
variable {N : Nat} {F : Nat → Prop} {Fs : Int → Nat → Prop} {w wr : World} {S : Nat} {p : Ps} {x : Xs}

theorem Sv.connects (hv : Sv N F Fs wr S p x) (hm : x.made ≤ 1000000000) :
    Calls Tryz.prog 9 #[.pointer (some ⟨S, 0, none⟩)] wr fun e w' => ∃ (id : Int) (ok : Bool) (y : Xs), e = .returned (.tuple #[.int .i64 id, .bool ok]) ∧ SvX N F wr w' S p y ∧ y.made = (if ok then x.made + 1 else x.made) := by
  by_cases hc : x.dr = false ∧ x.K.length < 4
  · refine (connect_any (hid hv) hc.1 hc.2 hm).mono ?_
    rintro e w1 ⟨rfl, hs⟩
    exact ⟨_, true, _, rfl, hs, rfl⟩
  · refine (connect_no (hid hv) ?_).mono ?_
    · cases hd : x.dr
      · right
        rcases Nat.lt_or_ge x.K.length 4 with h1 | h1
        · exact absurd ⟨hd, h1⟩ hc
        · exact h1
      · exact Or.inl rfl
    · rintro e w1 ⟨rfl, hu⟩
      exact ⟨_, false, _, rfl, hv.svx hu, rfl⟩
theorem Sv.datas (hv : Sv N F Fs wr S p x) (id : Int) (s : ByteArray) (hs : s.size ≤ 4000000) :
    Calls Tryz.prog 14 #[.pointer (some ⟨S, 0, none⟩), .int .i64 id, .string s] wr fun e w' => ∃ (n : Nat) (y : Xs), e = .returned (.int .i64 n) ∧ n ≤ s.size ∧ SvX N F wr w' S p y ∧ y.made = x.made := by
  cases hg : aget x.K id with
  | none =>
    refine (data_none (hid hv) (hid hg) s).mono ?_
    rintro e w1 ⟨rfl, hu⟩
    exact ⟨0, _, rfl, Nat.zero_le _, hv.svx hu, rfl⟩
  | some q =>
    refine (data_any (hid hv) (hid hg) s hs).mono ?_
    rintro e w1 ⟨rfl, hd⟩
    have hle := gets_le x.dr ⟨q.2, x.L, x.u⟩ s.data.toList
    have hsz : s.data.toList.length = s.size := by rw [Array.length_toList]; rfl
    exact ⟨_, _, rfl, by omega, hd, rfl⟩
theorem made_taken (x : Xs) (id : Int) (z : Cs) : (x.taken id z).made = x.made := by unfold Xs.taken; split <;> rfl
theorem Sv.takes (hv : Sv N F Fs wr S p x) (id n : Int) :
    Calls Tryz.prog 16 #[.pointer (some ⟨S, 0, none⟩), .int .i64 id, .int .i64 n] wr fun e w' => ∃ (t : List UInt8) (y : Xs), e = .returned (.string ⟨t.toArray⟩) ∧ (t = [] ∨ (t.length : Int) ≤ n) ∧ t.length ≤ 449 ∧ SvX N F wr w' S p y ∧ y.made = x.made := by
  cases hg : aget x.K id with
  | none =>
    refine (Take_none (hid hv) (hid hg) n).mono ?_
    rintro e w1 ⟨rfl, hu⟩
    exact ⟨[], _, rfl, Or.inl rfl, by simp, hv.svx hu, rfl⟩
  | some q =>
    by_cases hn : n < 1
    · refine (Take_less (hid hv) (hid hg) n hn).mono ?_
      rintro e w1 ⟨rfl, hu⟩
      exact ⟨[], _, rfl, Or.inl rfl, by simp, hv.svx hu, rfl⟩
    · obtain ⟨m, rfl⟩ := Int.eq_ofNat_of_zero_le (show 0 ≤ n by omega)
      refine (Take_open (hid hv) (hid hg) m (by omega)).mono ?_
      rintro e w1 ⟨rfl, hs⟩
      have hk := (hv.ki _ (aget_mem hg)).out
      have hk' : q.2.out.length ≤ 449 := hk
      have hl : (q.2.out.take m).length ≤ m := by rw [List.length_take]; omega
      exact ⟨_, _, rfl, Or.inr (by omega), by rw [List.length_take]; omega, hs, made_taken _ _ _⟩
theorem Sv.shuts (hv : Sv N F Fs wr S p x) (id : Int) :
    Calls Tryz.prog 32 #[.pointer (some ⟨S, 0, none⟩), .int .i64 id] wr fun e w' => e = .returned (.tuple #[]) ∧ ∃ y : Xs, SvX N F wr w' S p y ∧ y.made = x.made := by
  refine (shut_any (hid hv) id).mono ?_
  rintro e w1 ⟨rfl, hs⟩
  exact ⟨rfl, _, hs, rfl⟩
theorem Sv.ticks (hv : Sv N F Fs wr S p x) :
    Calls Tryz.prog 33 #[.pointer (some ⟨S, 0, none⟩)] wr fun e w' => e = .returned (.tuple #[]) ∧ ∃ y : Xs, SvX N F wr w' S p y ∧ y.made = x.made := by
  refine (tick_any S wr).mono ?_
  rintro e w1 ⟨rfl, hu⟩
  exact ⟨rfl, _, hv.svx hu, rfl⟩
theorem Sv.drains (hv : Sv N F Fs wr S p x) :
    Calls Tryz.prog 17 #[.pointer (some ⟨S, 0, none⟩)] wr fun e w' => e = .returned (.tuple #[]) ∧ ∃ y : Xs, SvX N F wr w' S p y ∧ y.made = x.made := by
  refine (drain_any (hid hv)).mono ?_
  rintro e w1 ⟨rfl, hs⟩
  exact ⟨rfl, _, hs, rfl⟩
theorem SvX.drain (h : SvX N F w wr S p x) :
    Calls Tryz.prog 17 #[.pointer (some ⟨S, 0, none⟩)] wr fun e w' => e = .returned (.tuple #[]) ∧ SvX N F w w' S p { x with dr := true } := by
  refine h.call (fun F' Fs' hv => ?_)
  refine (drain_any (hid hv)).mono ?_
  rintro e w1 ⟨rfl, hs⟩
  exact ⟨_, hs, fun hs' => ⟨rfl, hs'⟩⟩
theorem SvX.opened (h : SvX N F w wr S p x) (id : Int) :
    Calls Tryz.prog 11 #[.pointer (some ⟨S, 0, none⟩), .int .i64 id] wr fun e w' => e = .returned (.bool (aget x.K id).isSome) ∧ SvX N F w w' S p x := by
  refine h.call (fun F' Fs' hv => ?_)
  refine (open_any (hid hv) id).mono ?_
  rintro e w1 ⟨rfl, hu⟩
  exact ⟨_, hv.svx hu, fun hs' => ⟨rfl, hs'⟩⟩
theorem SvX.used (h : SvX N F w wr S p x) :
    Calls Tryz.prog 12 #[.pointer (some ⟨S, 0, none⟩)] wr fun e w' => ∃ u : Int, e = .returned (.int .i64 u) ∧ 0 ≤ u ∧ u ≤ 8200 ∧ SvX N F w w' S p x := by
  refine h.call (fun F' Fs' hv => ?_)
  have hm := hv.most
  refine (used_any (hid hv)).mono ?_
  rintro e w1 ⟨rfl, hu⟩
  exact ⟨_, hv.svx hu, fun hs' => ⟨_, rfl, hm.1, hm.2, hs'⟩⟩
theorem SvX.few (h : SvX N F w wr S p x) : x.K.length ≤ 4 := by
  obtain ⟨F', Fs', h1, _, _⟩ := h
  exact h1.few
end

set_option maxHeartbeats 3200000 in
set_option maxRecDepth 100000 in
theorem run_any {N : Nat} {F : Nat → Prop} {Fs : Int → Nat → Prop} {w : World} {S : Nat} {p : Ps} (h : Hid (Sv N F Fs w S p xNew)) (v : Value) (os : List OpD) (ho : Hid (OpsAt N w v os)) (hol : os.length ≤ 1100000) (hsz : Hid (∀ o ∈ os, o.s.size ≤ 4000000)) :
    Calls Tryz.prog 15 #[.pointer (some ⟨S, 0, none⟩), v] w fun e w' => e = .returned (.bool true) ∧ ∃ x : Xs, SvX N F w w' S p x ∧ x.made ≤ os.length := by
  obtain ⟨ao, cap, rfl⟩ := ho.out.form
  have HBel : Hid (∀ wr y, SvX N F w wr S p y → Below N w wr) := fun wr y hy => hy.below (fun k hk => (h.out.low k hk).1) (by have := h.out.low S h.out.own.1; omega)
  have H0 := hid (h.out.svx (Upd.refl _ w))
  clear h
  go_enter Tryz.func15, Tryz.ntmps15
  go_wp2_with fail
  go_loopw [5, 6] (fun mv iv wr => ∃ (x : Xs) (k : Nat), mv = .int .i64 x.made ∧ iv = .int .i64 k ∧ k ≤ os.length ∧ x.made ≤ k ∧ Hid (SvX N F w wr S p x)) (fun _ iv _ => os.length - (intOf iv).toNat)
  case atStart => exact ⟨xNew, 0, rfl, rfl, Nat.zero_le _, Nat.le_refl _, H0⟩
  case round =>
    obtain ⟨x, k, rfl, rfl, hk, hmk, hx⟩ := hrel
    clear H0
    by_cases hlt : k < os.length
    · obtain ⟨b, off, rfl, hc0, hc1, hc2, hc3⟩ := (ho.out.keep (HBel.out wr _ hx.out)).get hlt
      have hss := hsz.out os[k] (List.getElem_mem hlt)
      obtain ⟨F1, Fs1, hv, hu1, hf1⟩ := hx.out
      have HU1 := hid hu1
      have HF1 := hid hf1
      clear hu1 hf1
      generalize os[k] = o at *
      obtain ⟨ok, oi, on, osx⟩ := o
      simp only at hc0 hc1 hc2 hc3 hss
      have HSame : Hid (Same wr (wr.alloc (.cells #[.int .i64 ok, .int .i64 oi, .int .i64 on, .string osx] 78))) := (Upd.refl _ wr).alloc _
      have HV := hid (hv.same HSame.out)
      have HBk : Hid ((wr.alloc (.cells #[.int .i64 ok, .int .i64 oi, .int .i64 on, .string osx] 78)).heap[wr.heap.size]? = some (.cells #[.int .i64 ok, .int .i64 oi, .int .i64 on, .string osx] 78 (0, 0)) ∧ ¬ F1 wr.heap.size) := ⟨heap_alloc_new wr _, fun e => absurd (hv.low _ e).2 (Nat.lt_irrefl _)⟩
      have HCh : Hid (∀ w1 y, SvX N F1 (wr.alloc (.cells #[.int .i64 ok, .int .i64 oi, .int .i64 on, .string osx] 78)) w1 S p y → SvX N F w w1 S p y ∧ w1.heap[wr.heap.size]? = some (.cells #[.int .i64 ok, .int .i64 oi, .int .i64 on, .string osx] 78 (0, 0))) := by
        intro w1 y hy
        refine ⟨SvX.trans HU1.out HF1.out (SvX.trans (HSame.out.mono (fun _ _ h => h.elim)) (fun _ hk => Or.inl hk) hy), ?_⟩
        obtain ⟨F2, Fs2, _, hu2, _⟩ := hy
        exact hu2.keep HBk.out.1 HBk.out.2
      clear hv HSame HBk
      by_cases hk1 : ok = 1
      · subst hk1
        go_wp2_with fail
        refine (HV.out.connects (by omega)).mono ?_
        rintro e w1 ⟨id, okk, y, rfl, hs, hym⟩
        have HX := hid (HCh.out w1 y hs).1
        clear hs HCh
        cases okk
        · have HYM : Hid (y.made = x.made) := hym
          clear hym
          have hfew := HX.out.few
          clear HU1 HF1 HV hx
          go_wp2_with fail
          go_loopw [12, 13] (fun ov jv wi => ∃ j : Nat, ov = .int .i64 (openOf y.K j) ∧ jv = .int .i64 j ∧ j ≤ x.made ∧ Hid (SvX N F w wi S p y)) (fun _ jv _ => x.made - (intOf jv).toNat)
          case atStart => exact ⟨0, rfl, rfl, Nat.zero_le _, HX⟩
          case round =>
            obtain ⟨j, rfl, rfl, hj, hxi⟩ := hrel
            clear HX
            by_cases hjl : j < x.made
            · have hop := openOf_le y.K (j + 1)
              have hop' : openOf y.K (j + 1) = openOf y.K j + (if (aget y.K (j : Int)).isSome then 1 else 0) := rfl
              have HOp := hid hop'
              rw [hop'] at hop
              clear hop'
              go_wp2_with fail
              refine (hxi.out.opened j).mono ?_
              rintro e w2 ⟨rfl, hx2⟩
              have HX2 := hid hx2
              clear hx2 hxi
              cases hq : (aget y.K (j : Int)).isSome
              · rw [hq] at HOp hop
                simp only [Bool.false_eq_true, if_false, Nat.add_zero] at HOp hop
                go_wp2
                exact ⟨⟨j + 1, by rw [HOp.out], by go_num, by omega, HX2⟩, by simp [intOf]; omega⟩
              · rw [hq] at HOp hop
                simp only [if_true] at HOp hop
                go_wp2
                exact ⟨⟨j + 1, by rw [HOp.out]; go_num, by go_num, by omega, HX2⟩, by simp [intOf]; omega⟩
            · obtain rfl : j = x.made := by omega
              have hop := openOf_le y.K (x.made)
              go_wp2_with fail
              refine hxi.out.used.mono ?_
              rintro e w3 ⟨u, rfl, hu0, hu1, hx3⟩
              have HX3 := hid hx3
              clear hx3 hxi
              generalize openOf y.K (x.made) = no at *
              go_wp2
              exact ⟨⟨y, k + 1, by first | (rw [HYM.out]; done) | (rw [HYM.out]; rfl) | (rw [HYM.out]; go_num), by go_num, by omega, by rw [HYM.out]; omega, HX3⟩, by simp [intOf]; omega⟩
        · have HYM : Hid (y.made = x.made + 1) := hym
          clear hym
          have hfew := HX.out.few
          clear HU1 HF1 HV hx
          go_wp2_with fail
          go_loopw [12, 13] (fun ov jv wi => ∃ j : Nat, ov = .int .i64 (openOf y.K j) ∧ jv = .int .i64 j ∧ j ≤ x.made + 1 ∧ Hid (SvX N F w wi S p y)) (fun _ jv _ => x.made + 1 - (intOf jv).toNat)
          case atStart => exact ⟨0, rfl, rfl, Nat.zero_le _, HX⟩
          case round =>
            obtain ⟨j, rfl, rfl, hj, hxi⟩ := hrel
            clear HX
            by_cases hjl : j < x.made + 1
            · have hop := openOf_le y.K (j + 1)
              have hop' : openOf y.K (j + 1) = openOf y.K j + (if (aget y.K (j : Int)).isSome then 1 else 0) := rfl
              have HOp := hid hop'
              rw [hop'] at hop
              clear hop'
              go_wp2_with fail
              refine (hxi.out.opened j).mono ?_
              rintro e w2 ⟨rfl, hx2⟩
              have HX2 := hid hx2
              clear hx2 hxi
              cases hq : (aget y.K (j : Int)).isSome
              · rw [hq] at HOp hop
                simp only [Bool.false_eq_true, if_false, Nat.add_zero] at HOp hop
                go_wp2
                exact ⟨⟨j + 1, by rw [HOp.out], by go_num, by omega, HX2⟩, by simp [intOf]; omega⟩
              · rw [hq] at HOp hop
                simp only [if_true] at HOp hop
                go_wp2
                exact ⟨⟨j + 1, by rw [HOp.out]; go_num, by go_num, by omega, HX2⟩, by simp [intOf]; omega⟩
            · obtain rfl : j = x.made + 1 := by omega
              have hop := openOf_le y.K (x.made + 1)
              go_wp2_with fail
              refine hxi.out.used.mono ?_
              rintro e w3 ⟨u, rfl, hu0, hu1, hx3⟩
              have HX3 := hid hx3
              clear hx3 hxi
              generalize openOf y.K (x.made + 1) = no at *
              go_wp2
              exact ⟨⟨y, k + 1, by first | (rw [HYM.out]; done) | (rw [HYM.out]; rfl) | (rw [HYM.out]; go_num), by go_num, by omega, by rw [HYM.out]; omega, HX3⟩, by simp [intOf]; omega⟩
      by_cases hk2 : ok = 2
      · subst hk2
        go_wp2_with fail
        refine (HV.out.datas oi osx hss).mono ?_
        rintro e w1 ⟨n, y, rfl, hn, hs, hym⟩
        have hbk := (HCh.out w1 y hs).2
        have b3 := cell_of_heap hbk 3
        simp only [List.getElem?_toArray, List.getElem?_cons_zero, List.getElem?_cons_succ] at b3
        have HX := hid (HCh.out w1 y hs).1
        have HYM := hid hym
        clear hs HCh hbk hym
        have hd1 : decide (osx.size < n) = false := decide_eq_false (by omega)
        have hd2 : decide ((n : Int) < 0) = false := decide_eq_false (by omega)
        clear hn
        have hfew := HX.out.few
        clear HU1 HF1 HV hx
        go_wp2_with fail
        clear b3
        go_loopw [12, 13] (fun ov jv wi => ∃ j : Nat, ov = .int .i64 (openOf y.K j) ∧ jv = .int .i64 j ∧ j ≤ x.made ∧ Hid (SvX N F w wi S p y)) (fun _ jv _ => x.made - (intOf jv).toNat)
        case atStart => exact ⟨0, rfl, rfl, Nat.zero_le _, HX⟩
        case round =>
          obtain ⟨j, rfl, rfl, hj, hxi⟩ := hrel
          clear HX
          by_cases hjl : j < x.made
          · have hop := openOf_le y.K (j + 1)
            have hop' : openOf y.K (j + 1) = openOf y.K j + (if (aget y.K (j : Int)).isSome then 1 else 0) := rfl
            have HOp := hid hop'
            rw [hop'] at hop
            clear hop'
            go_wp2_with fail
            refine (hxi.out.opened j).mono ?_
            rintro e w2 ⟨rfl, hx2⟩
            have HX2 := hid hx2
            clear hx2 hxi
            cases hq : (aget y.K (j : Int)).isSome
            · rw [hq] at HOp hop
              simp only [Bool.false_eq_true, if_false, Nat.add_zero] at HOp hop
              go_wp2
              exact ⟨⟨j + 1, by rw [HOp.out], by go_num, by omega, HX2⟩, by simp [intOf]; omega⟩
            · rw [hq] at HOp hop
              simp only [if_true] at HOp hop
              go_wp2
              exact ⟨⟨j + 1, by rw [HOp.out]; go_num, by go_num, by omega, HX2⟩, by simp [intOf]; omega⟩
          · obtain rfl : j = x.made := by omega
            have hop := openOf_le y.K (x.made)
            go_wp2_with fail
            refine hxi.out.used.mono ?_
            rintro e w3 ⟨u, rfl, hu0, hu1, hx3⟩
            have HX3 := hid hx3
            clear hx3 hxi
            generalize openOf y.K (x.made) = no at *
            go_wp2
            exact ⟨⟨y, k + 1, by first | (rw [HYM.out]; done) | (rw [HYM.out]; rfl) | (rw [HYM.out]; go_num), by go_num, by omega, by rw [HYM.out]; omega, HX3⟩, by simp [intOf]; omega⟩
      by_cases hk3 : ok = 3
      · subst hk3
        go_wp2_with fail
        refine (HV.out.takes oi on).mono ?_
        rintro e w1 ⟨t, y, rfl, ht, ht2, hs, hym⟩
        have hbk := (HCh.out w1 y hs).2
        have b2 := cell_of_heap hbk 2
        simp only [List.getElem?_toArray, List.getElem?_cons_zero, List.getElem?_cons_succ] at b2
        have HX := hid (HCh.out w1 y hs).1
        have HYM := hid hym
        clear hs HCh hbk hym
        by_cases ht0 : t = []
        · subst ht0
          clear ht
          have hfew := HX.out.few
          clear HU1 HF1 HV hx
          go_wp2_with fail
          go_loopw [12, 13] (fun ov jv wi => ∃ j : Nat, ov = .int .i64 (openOf y.K j) ∧ jv = .int .i64 j ∧ j ≤ x.made ∧ Hid (SvX N F w wi S p y)) (fun _ jv _ => x.made - (intOf jv).toNat)
          case atStart => exact ⟨0, rfl, rfl, Nat.zero_le _, HX⟩
          case round =>
            obtain ⟨j, rfl, rfl, hj, hxi⟩ := hrel
            clear HX
            by_cases hjl : j < x.made
            · have hop := openOf_le y.K (j + 1)
              have hop' : openOf y.K (j + 1) = openOf y.K j + (if (aget y.K (j : Int)).isSome then 1 else 0) := rfl
              have HOp := hid hop'
              rw [hop'] at hop
              clear hop'
              go_wp2_with fail
              refine (hxi.out.opened j).mono ?_
              rintro e w2 ⟨rfl, hx2⟩
              have HX2 := hid hx2
              clear hx2 hxi
              cases hq : (aget y.K (j : Int)).isSome
              · rw [hq] at HOp hop
                simp only [Bool.false_eq_true, if_false, Nat.add_zero] at HOp hop
                go_wp2
                exact ⟨⟨j + 1, by rw [HOp.out], by go_num, by omega, HX2⟩, by simp [intOf]; omega⟩
              · rw [hq] at HOp hop
                simp only [if_true] at HOp hop
                go_wp2
                exact ⟨⟨j + 1, by rw [HOp.out]; go_num, by go_num, by omega, HX2⟩, by simp [intOf]; omega⟩
            · obtain rfl : j = x.made := by omega
              have hop := openOf_le y.K (x.made)
              go_wp2_with fail
              refine hxi.out.used.mono ?_
              rintro e w3 ⟨u, rfl, hu0, hu1, hx3⟩
              have HX3 := hid hx3
              clear hx3 hxi
              generalize openOf y.K (x.made) = no at *
              go_wp2
              exact ⟨⟨y, k + 1, by first | (rw [HYM.out]; done) | (rw [HYM.out]; rfl) | (rw [HYM.out]; go_num), by go_num, by omega, by rw [HYM.out]; omega, HX3⟩, by simp [intOf]; omega⟩
        · have ht1 : (t.length : Int) ≤ on := by
            rcases ht with h | h
            · exact absurd h ht0
            · exact h
          have ht3 : 0 < t.length := List.length_pos_iff.2 ht0
          clear ht ht0
          have hfew := HX.out.few
          clear HU1 HF1 HV hx
          go_wp2_with fail
          clear ht1 ht3 b2
          go_loopw [12, 13] (fun ov jv wi => ∃ j : Nat, ov = .int .i64 (openOf y.K j) ∧ jv = .int .i64 j ∧ j ≤ x.made ∧ Hid (SvX N F w wi S p y)) (fun _ jv _ => x.made - (intOf jv).toNat)
          case atStart => exact ⟨0, rfl, rfl, Nat.zero_le _, HX⟩
          case round =>
            obtain ⟨j, rfl, rfl, hj, hxi⟩ := hrel
            clear HX
            by_cases hjl : j < x.made
            · have hop := openOf_le y.K (j + 1)
              have hop' : openOf y.K (j + 1) = openOf y.K j + (if (aget y.K (j : Int)).isSome then 1 else 0) := rfl
              have HOp := hid hop'
              rw [hop'] at hop
              clear hop'
              go_wp2_with fail
              refine (hxi.out.opened j).mono ?_
              rintro e w2 ⟨rfl, hx2⟩
              have HX2 := hid hx2
              clear hx2 hxi
              cases hq : (aget y.K (j : Int)).isSome
              · rw [hq] at HOp hop
                simp only [Bool.false_eq_true, if_false, Nat.add_zero] at HOp hop
                go_wp2
                exact ⟨⟨j + 1, by rw [HOp.out], by go_num, by omega, HX2⟩, by simp [intOf]; omega⟩
              · rw [hq] at HOp hop
                simp only [if_true] at HOp hop
                go_wp2
                exact ⟨⟨j + 1, by rw [HOp.out]; go_num, by go_num, by omega, HX2⟩, by simp [intOf]; omega⟩
            · obtain rfl : j = x.made := by omega
              have hop := openOf_le y.K (x.made)
              go_wp2_with fail
              refine hxi.out.used.mono ?_
              rintro e w3 ⟨u, rfl, hu0, hu1, hx3⟩
              have HX3 := hid hx3
              clear hx3 hxi
              generalize openOf y.K (x.made) = no at *
              go_wp2
              exact ⟨⟨y, k + 1, by first | (rw [HYM.out]; done) | (rw [HYM.out]; rfl) | (rw [HYM.out]; go_num), by go_num, by omega, by rw [HYM.out]; omega, HX3⟩, by simp [intOf]; omega⟩
      by_cases hk4 : ok = 4
      · subst hk4
        go_wp2_with fail
        refine (HV.out.shuts oi).mono ?_
        rintro e w1 ⟨rfl, y, hs, hym⟩
        have HX := hid (HCh.out w1 y hs).1
        have HYM := hid hym
        clear hs HCh hym
        have hfew := HX.out.few
        clear HU1 HF1 HV hx
        go_wp2_with fail
        go_loopw [12, 13] (fun ov jv wi => ∃ j : Nat, ov = .int .i64 (openOf y.K j) ∧ jv = .int .i64 j ∧ j ≤ x.made ∧ Hid (SvX N F w wi S p y)) (fun _ jv _ => x.made - (intOf jv).toNat)
        case atStart => exact ⟨0, rfl, rfl, Nat.zero_le _, HX⟩
        case round =>
          obtain ⟨j, rfl, rfl, hj, hxi⟩ := hrel
          clear HX
          by_cases hjl : j < x.made
          · have hop := openOf_le y.K (j + 1)
            have hop' : openOf y.K (j + 1) = openOf y.K j + (if (aget y.K (j : Int)).isSome then 1 else 0) := rfl
            have HOp := hid hop'
            rw [hop'] at hop
            clear hop'
            go_wp2_with fail
            refine (hxi.out.opened j).mono ?_
            rintro e w2 ⟨rfl, hx2⟩
            have HX2 := hid hx2
            clear hx2 hxi
            cases hq : (aget y.K (j : Int)).isSome
            · rw [hq] at HOp hop
              simp only [Bool.false_eq_true, if_false, Nat.add_zero] at HOp hop
              go_wp2
              exact ⟨⟨j + 1, by rw [HOp.out], by go_num, by omega, HX2⟩, by simp [intOf]; omega⟩
            · rw [hq] at HOp hop
              simp only [if_true] at HOp hop
              go_wp2
              exact ⟨⟨j + 1, by rw [HOp.out]; go_num, by go_num, by omega, HX2⟩, by simp [intOf]; omega⟩
          · obtain rfl : j = x.made := by omega
            have hop := openOf_le y.K (x.made)
            go_wp2_with fail
            refine hxi.out.used.mono ?_
            rintro e w3 ⟨u, rfl, hu0, hu1, hx3⟩
            have HX3 := hid hx3
            clear hx3 hxi
            generalize openOf y.K (x.made) = no at *
            go_wp2
            exact ⟨⟨y, k + 1, by first | (rw [HYM.out]; done) | (rw [HYM.out]; rfl) | (rw [HYM.out]; go_num), by go_num, by omega, by rw [HYM.out]; omega, HX3⟩, by simp [intOf]; omega⟩
      by_cases hk5 : ok = 5
      · subst hk5
        go_wp2_with fail
        refine (HV.out.ticks).mono ?_
        rintro e w1 ⟨rfl, y, hs, hym⟩
        have HX := hid (HCh.out w1 y hs).1
        have HYM := hid hym
        clear hs HCh hym
        have hfew := HX.out.few
        clear HU1 HF1 HV hx
        go_wp2_with fail
        go_loopw [12, 13] (fun ov jv wi => ∃ j : Nat, ov = .int .i64 (openOf y.K j) ∧ jv = .int .i64 j ∧ j ≤ x.made ∧ Hid (SvX N F w wi S p y)) (fun _ jv _ => x.made - (intOf jv).toNat)
        case atStart => exact ⟨0, rfl, rfl, Nat.zero_le _, HX⟩
        case round =>
          obtain ⟨j, rfl, rfl, hj, hxi⟩ := hrel
          clear HX
          by_cases hjl : j < x.made
          · have hop := openOf_le y.K (j + 1)
            have hop' : openOf y.K (j + 1) = openOf y.K j + (if (aget y.K (j : Int)).isSome then 1 else 0) := rfl
            have HOp := hid hop'
            rw [hop'] at hop
            clear hop'
            go_wp2_with fail
            refine (hxi.out.opened j).mono ?_
            rintro e w2 ⟨rfl, hx2⟩
            have HX2 := hid hx2
            clear hx2 hxi
            cases hq : (aget y.K (j : Int)).isSome
            · rw [hq] at HOp hop
              simp only [Bool.false_eq_true, if_false, Nat.add_zero] at HOp hop
              go_wp2
              exact ⟨⟨j + 1, by rw [HOp.out], by go_num, by omega, HX2⟩, by simp [intOf]; omega⟩
            · rw [hq] at HOp hop
              simp only [if_true] at HOp hop
              go_wp2
              exact ⟨⟨j + 1, by rw [HOp.out]; go_num, by go_num, by omega, HX2⟩, by simp [intOf]; omega⟩
          · obtain rfl : j = x.made := by omega
            have hop := openOf_le y.K (x.made)
            go_wp2_with fail
            refine hxi.out.used.mono ?_
            rintro e w3 ⟨u, rfl, hu0, hu1, hx3⟩
            have HX3 := hid hx3
            clear hx3 hxi
            generalize openOf y.K (x.made) = no at *
            go_wp2
            exact ⟨⟨y, k + 1, by first | (rw [HYM.out]; done) | (rw [HYM.out]; rfl) | (rw [HYM.out]; go_num), by go_num, by omega, by rw [HYM.out]; omega, HX3⟩, by simp [intOf]; omega⟩
      by_cases hk6 : ok = 6
      · subst hk6
        go_wp2_with fail
        refine (HV.out.drains).mono ?_
        rintro e w1 ⟨rfl, y, hs, hym⟩
        have HX := hid (HCh.out w1 y hs).1
        have HYM := hid hym
        clear hs HCh hym
        have hfew := HX.out.few
        clear HU1 HF1 HV hx
        go_wp2_with fail
        go_loopw [12, 13] (fun ov jv wi => ∃ j : Nat, ov = .int .i64 (openOf y.K j) ∧ jv = .int .i64 j ∧ j ≤ x.made ∧ Hid (SvX N F w wi S p y)) (fun _ jv _ => x.made - (intOf jv).toNat)
        case atStart => exact ⟨0, rfl, rfl, Nat.zero_le _, HX⟩
        case round =>
          obtain ⟨j, rfl, rfl, hj, hxi⟩ := hrel
          clear HX
          by_cases hjl : j < x.made
          · have hop := openOf_le y.K (j + 1)
            have hop' : openOf y.K (j + 1) = openOf y.K j + (if (aget y.K (j : Int)).isSome then 1 else 0) := rfl
            have HOp := hid hop'
            rw [hop'] at hop
            clear hop'
            go_wp2_with fail
            refine (hxi.out.opened j).mono ?_
            rintro e w2 ⟨rfl, hx2⟩
            have HX2 := hid hx2
            clear hx2 hxi
            cases hq : (aget y.K (j : Int)).isSome
            · rw [hq] at HOp hop
              simp only [Bool.false_eq_true, if_false, Nat.add_zero] at HOp hop
              go_wp2
              exact ⟨⟨j + 1, by rw [HOp.out], by go_num, by omega, HX2⟩, by simp [intOf]; omega⟩
            · rw [hq] at HOp hop
              simp only [if_true] at HOp hop
              go_wp2
              exact ⟨⟨j + 1, by rw [HOp.out]; go_num, by go_num, by omega, HX2⟩, by simp [intOf]; omega⟩
          · obtain rfl : j = x.made := by omega
            have hop := openOf_le y.K (x.made)
            go_wp2_with fail
            refine hxi.out.used.mono ?_
            rintro e w3 ⟨u, rfl, hu0, hu1, hx3⟩
            have HX3 := hid hx3
            clear hx3 hxi
            generalize openOf y.K (x.made) = no at *
            go_wp2
            exact ⟨⟨y, k + 1, by first | (rw [HYM.out]; done) | (rw [HYM.out]; rfl) | (rw [HYM.out]; go_num), by go_num, by omega, by rw [HYM.out]; omega, HX3⟩, by simp [intOf]; omega⟩
      · obtain ⟨y, hs, hym⟩ : ∃ y, SvX N F1 (wr.alloc (.cells #[.int .i64 ok, .int .i64 oi, .int .i64 on, .string osx] 78)) (wr.alloc (.cells #[.int .i64 ok, .int .i64 oi, .int .i64 on, .string osx] 78)) S p y ∧ y.made = x.made := ⟨x, HV.out.svx (Upd.refl _ _), rfl⟩
        have HX := hid (HCh.out _ y hs).1
        have HYM := hid hym
        have q1 : (ok == 1) = false := by simpa using hk1
        have q2 : (ok == 2) = false := by simpa using hk2
        have q3 : (ok == 3) = false := by simpa using hk3
        have q4 : (ok == 4) = false := by simpa using hk4
        have q5 : (ok == 5) = false := by simpa using hk5
        have q6 : (ok == 6) = false := by simpa using hk6
        clear hs HCh hym hk1 hk2 hk3 hk4 hk5 hk6
        have hfew := HX.out.few
        clear HU1 HF1 HV hx
        go_wp2_with fail
        go_loopw [12, 13] (fun ov jv wi => ∃ j : Nat, ov = .int .i64 (openOf y.K j) ∧ jv = .int .i64 j ∧ j ≤ x.made ∧ Hid (SvX N F w wi S p y)) (fun _ jv _ => x.made - (intOf jv).toNat)
        case atStart => exact ⟨0, rfl, rfl, Nat.zero_le _, HX⟩
        case round =>
          obtain ⟨j, rfl, rfl, hj, hxi⟩ := hrel
          clear HX
          by_cases hjl : j < x.made
          · have hop := openOf_le y.K (j + 1)
            have hop' : openOf y.K (j + 1) = openOf y.K j + (if (aget y.K (j : Int)).isSome then 1 else 0) := rfl
            have HOp := hid hop'
            rw [hop'] at hop
            clear hop'
            go_wp2_with fail
            refine (hxi.out.opened j).mono ?_
            rintro e w2 ⟨rfl, hx2⟩
            have HX2 := hid hx2
            clear hx2 hxi
            cases hq : (aget y.K (j : Int)).isSome
            · rw [hq] at HOp hop
              simp only [Bool.false_eq_true, if_false, Nat.add_zero] at HOp hop
              go_wp2
              exact ⟨⟨j + 1, by rw [HOp.out], by go_num, by omega, HX2⟩, by simp [intOf]; omega⟩
            · rw [hq] at HOp hop
              simp only [if_true] at HOp hop
              go_wp2
              exact ⟨⟨j + 1, by rw [HOp.out]; go_num, by go_num, by omega, HX2⟩, by simp [intOf]; omega⟩
          · obtain rfl : j = x.made := by omega
            have hop := openOf_le y.K (x.made)
            go_wp2_with fail
            refine hxi.out.used.mono ?_
            rintro e w3 ⟨u, rfl, hu0, hu1, hx3⟩
            have HX3 := hid hx3
            clear hx3 hxi
            generalize openOf y.K (x.made) = no at *
            go_wp2
            exact ⟨⟨y, k + 1, by first | (rw [HYM.out]; done) | (rw [HYM.out]; rfl) | (rw [HYM.out]; go_num), by go_num, by omega, by rw [HYM.out]; omega, HX3⟩, by simp [intOf]; omega⟩
    · obtain rfl : k = os.length := by omega
      have HE : Hid (∃ x : Xs, SvX N F w wr S p x ∧ x.made ≤ os.length) := ⟨x, hx.out, hmk⟩
      clear hx
      go_wp2
      go_ret
      exact ⟨rfl, HE.out⟩

end Go.Proofs.YtohoddhegkjehaaGreatDoor
