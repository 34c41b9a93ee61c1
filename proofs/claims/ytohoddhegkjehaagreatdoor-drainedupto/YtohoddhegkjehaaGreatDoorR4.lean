import Derived.Test.YtohoddhegkjehaaGreatDoorR2
import Derived.Test.YtohoddhegkjehaaGreatDoorR3
/-
  The law Drained.
-/
namespace Go.Proofs.YtohoddhegkjehaaGreatDoor
open Go.RowKit Go.MapKept

/-- Nothing waits over this connection, if it is open. -/
def Ready (x : Xs) (id : Int) : Prop := ∀ c cx, aget x.K id = some (c, cx) → cx.kind ≠ 2 ∧ cx.out = [] ∧ cx.unread = []

theorem aget_kset_ne (K : Ks) (id j : Int) (cx : CX) (h : j ≠ id) : aget (kset K id cx) j = aget K j := by
  induction K with
  | nil => rfl
  | cons e K ih =>
    unfold kset aget aidx at ih ⊢
    rw [List.map_cons, List.findIdx_cons, List.findIdx_cons]
    have e1 : (if e.1 = id then (e.1, e.2.1, cx) else e).1 = e.1 := by split <;> rfl
    rw [e1]
    by_cases hj : e.1 = j
    · have b1 : (e.1 == j) = true := by simpa using hj
      have hne : ¬ e.1 = id := fun q => h (hj.symm.trans q)
      rw [b1, if_neg hne]
      rfl
    · have b1 : (e.1 == j) = false := by simpa using hj
      rw [b1]
      simpa using ih
theorem aget_adel_ne (K : Ks) (id j : Int) (h : j ≠ id) : aget (adel K id) j = aget K j := by
  induction K with
  | nil => rfl
  | cons e K ih =>
    unfold adel aget aidx at ih ⊢
    rw [List.findIdx_cons]
    by_cases hi : e.1 = id
    · have b1 : (e.1 == id) = true := by simpa using hi
      have b2 : (e.1 == j) = false := by
        have : e.1 ≠ j := fun q => h (q.symm.trans hi)
        simpa using this
      rw [b1, List.findIdx_cons, b2]
      simp
    · have b1 : (e.1 == id) = false := by simpa using hi
      rw [b1]
      simp only [cond_false, List.eraseIdx_cons_succ]
      rw [List.findIdx_cons, List.findIdx_cons]
      by_cases hj : e.1 = j
      · have b2 : (e.1 == j) = true := by simpa using hj
        rw [b2]
        rfl
      · have b2 : (e.1 == j) = false := by simpa using hj
        rw [b2]
        simpa using ih
theorem aget_taken_ne (x : Xs) (id j : Int) (z : Cs) (h : j ≠ id) : aget (x.taken id z).K j = aget x.K j := by
  unfold Xs.taken
  split
  · exact (aget_adel_ne _ id j h).trans (aget_kset_ne x.K id j z.cx h)
  · exact aget_kset_ne x.K id j z.cx h
theorem dr_taken (x : Xs) (id : Int) (z : Cs) : (x.taken id z).dr = x.dr := by unfold Xs.taken; split <;> rfl

/-- Between two takes over the connection id. -/
structure TkAt (N : Nat) (F : Nat → Prop) (w wr : World) (S : Nat) (p : Ps) (x : Xs) (id : Int) (g : Nat) (t : List UInt8) : Prop where
  st : (t = [] ∧ aget x.K id = none ∧ SvX N F w wr S p x) ∨ ∃ c cx y, aget x.K id = some (c, cx) ∧ (x.K.map (·.1)).Nodup ∧ SvX N F w wr S p (x.taken id (y.take x.dr 1073741824)) ∧ y.Fits ∧ CsI y ∧ t = y.cx.out ∧ y.left = g

section
variable {N : Nat} {F : Nat → Prop} {w wr : World} {S : Nat} {p : Ps} {x : Xs} {id : Int} {g : Nat} {t : List UInt8}

theorem SvX.take0 (h : SvX N F w wr S p x) (id : Int) :
    Calls Tryz.prog 16 #[.pointer (some ⟨S, 0, none⟩), .int .i64 id, .int .i64 1073741824] wr fun e w' => ∃ (t : List UInt8) (g : Nat), e = .returned (.string ⟨t.toArray⟩) ∧ TkAt N F w w' S p x id g t := by
  refine h.call (fun F' Fs' hv => ?_)
  cases hg : aget x.K id with
  | none =>
    refine (Take_none (hid hv) (hid hg) 1073741824).mono ?_
    rintro e w1 ⟨rfl, hu⟩
    exact ⟨_, hv.svx hu, fun hs' => ⟨[], 0, rfl, ⟨Or.inl ⟨rfl, hg, hs'⟩⟩⟩⟩
  | some q =>
    obtain ⟨c, cx⟩ := q
    have hk := hv.ki _ (aget_mem hg)
    have hk' : KInv cx := hk
    refine (Take_open (hid hv) (hid hg) 1073741824 (by omega)).mono ?_
    rintro e w1 ⟨rfl, hs⟩
    have ht : cx.out.take 1073741824 = cx.out := List.take_of_length_le (by have := hk'.out; omega)
    rw [ht]
    exact ⟨_, hs, fun hs' => ⟨_, _, rfl, ⟨Or.inr ⟨c, cx, ⟨cx, x.L, x.u⟩, hg, hv.nd, hs', Cs.fits_of hk' _ _, hk'.csi hv.ti, rfl, rfl⟩⟩⟩⟩

theorem TkAt.more (h : TkAt N F w wr S p x id g t) (ht : t ≠ []) :
    Calls Tryz.prog 16 #[.pointer (some ⟨S, 0, none⟩), .int .i64 id, .int .i64 1073741824] wr fun e w' => ∃ (t' : List UInt8) (g' : Nat), g' < g ∧ e = .returned (.string ⟨t'.toArray⟩) ∧ TkAt N F w w' S p x id g' t' := by
  rcases h.st with ⟨h1, _⟩ | ⟨c, cx, y, hg, hnd, hs, h2, h3, rfl, rfl⟩
  · exact absurd h1 ht
  have hol : y.cx.out.length ≤ 1073741824 := by have := h3.out; omega
  have hleft := left_take x.dr y 1073741824 hol h2 ht
  have hfit := fits_take x.dr y 1073741824
  have hcsi := h3.take x.dr 1073741824
  generalize y.take x.dr 1073741824 = y' at *
  by_cases hd : y'.cx.kind = 2 ∧ y'.cx.out = []
  · have hun : y'.cx.unread = [] := by
      cases hq : y'.cx.unread with
      | nil => rfl
      | cons a l => exact absurd hd.1 (hfit.2 (by rw [hq]; simp)).1
    have hx : x.taken id (y'.take x.dr 1073741824) = x.taken id y' := by rw [take_idle x.dr y' _ hd.2 hun]
    refine hs.call (fun F' Fs' hv => ?_)
    refine (Take_none (hid hv) (hid (by rw [aget_taken hnd hg]; rw [if_pos hd])) 1073741824).mono ?_
    rintro e w1 ⟨rfl, hu⟩
    exact ⟨_, hv.svx hu, fun hd' => ⟨[], _, hleft, rfl, ⟨Or.inr ⟨c, cx, y', hg, hnd, by rw [hx]; exact hd', hfit, hcsi, hd.2.symm, rfl⟩⟩⟩⟩
  · have hx : x.taken id y' = x.after id y' := by unfold Xs.taken; rw [if_neg hd]
    rw [hx] at hs
    refine hs.call (fun F' Fs' hv => ?_)
    refine (Take_open (hid hv) (hid (aget_after hg y')) 1073741824 (by omega)).mono ?_
    rintro e w1 ⟨rfl, hq⟩
    rw [after_taken] at hq
    have e1 : (⟨y'.cx, (x.after id y').L, (x.after id y').u⟩ : Cs) = y' := rfl
    have e2 : (x.after id y').dr = x.dr := rfl
    rw [e1, e2] at hq
    have ht' : y'.cx.out.take 1073741824 = y'.cx.out := List.take_of_length_le (by have := hcsi.out; omega)
    rw [ht']
    exact ⟨_, hq, fun hd' => ⟨_, _, hleft, rfl, ⟨Or.inr ⟨c, cx, y', hg, hnd, hd', hfit, hcsi, rfl, rfl⟩⟩⟩⟩

theorem TkAt.done (h : TkAt N F w wr S p x id g []) : ∃ x' : Xs, SvX N F w wr S p x' ∧ x'.made = x.made ∧ Ready x' id ∧ ∀ j, j ≠ id → aget x'.K j = aget x.K j := by
  rcases h.st with ⟨_, h1, h2⟩ | ⟨c, cx, y, hg, hnd, hs, h2, h3, h4, _⟩
  · exact ⟨x, h2, rfl, (fun c cx hq => by rw [h1] at hq; cases hq), fun _ _ => rfl⟩
  · have ho : y.cx.out = [] := h4.symm
    have hun : y.cx.unread = [] := by
      cases hq : y.cx.unread with
      | nil => rfl
      | cons a l => have := (h2.2 (by rw [hq]; simp)).2; rw [ho] at this; simp at this
    rw [take_idle x.dr y _ ho hun] at hs
    refine ⟨_, hs, made_taken _ _ _, ?_, fun j hj => aget_taken_ne x id j y hj⟩
    intro c' cx' hq
    rw [aget_taken hnd hg] at hq
    by_cases hk : y.cx.kind = 2
    · rw [if_pos ⟨hk, ho⟩] at hq; cases hq
    · rw [if_neg (fun e => hk e.1)] at hq
      cases hq
      exact ⟨hk, ho, hun⟩

theorem SvX.noConnect (h : SvX N F w wr S p x) (hd : x.dr = true) :
    Calls Tryz.prog 9 #[.pointer (some ⟨S, 0, none⟩)] wr fun e w' => e = .returned (.tuple #[.int .i64 0, .bool false]) ∧ SvX N F w w' S p x := by
  refine h.call (fun F' Fs' hv => ?_)
  refine (connect_no (hid hv) (Or.inl hd)).mono ?_
  rintro e w1 ⟨rfl, hu⟩
  exact ⟨_, hv.svx hu, fun hs' => ⟨rfl, hs'⟩⟩

/-- All bytes come over a connection behind Drain. -/
theorem SvX.all (h : SvX N F w wr S p x) (hd : x.dr = true) {c : Nat} {cx : CX} (hg : aget x.K id = some (c, cx)) (hr : Ready x id) (bs : ByteArray) (hb : bs.size ≤ 2000000) :
    Calls Tryz.prog 10 #[.pointer (some ⟨S, 0, none⟩), .int .i64 id, .string bs, .slice none 0 0] wr fun e w' => ∃ (at_ : Int) (out : List UInt8) (y : Xs), e = .returned (.tuple #[.string ⟨out.toArray⟩, .int .i64 at_]) ∧ SvX N F w w' S p y ∧ y.dr = true ∧ (∀ j, j ≠ id → aget y.K j = aget x.K j) ∧
      ((out = [] ∧ (aget y.K id).isSome = true) ∨ ((aget y.K id).isSome = false ∧ ∃ a : Ans, a.last = true ∧ a.bytes.length ≤ 200 ∧ out = a.bytes)) := by
  refine h.call (fun F' Fs' hv => ?_)
  have hrd := hr c cx hg
  have hk : KInv cx := hv.ki _ (aget_mem hg)
  refine (all_any (hid hv) (hid hg) (hid hrd) bs hb (.slice none 0 0) [] (hid .none) (by decide)).mono ?_
  rintro e w1 ⟨at_, rfl, hs, _⟩
  refine ⟨_, hs, fun hs' => ⟨at_, _, _, rfl, hs', (dr_taken _ _ _).trans hd, fun j hj => aget_taken_ne x id j _ hj, ?_⟩⟩
  have hl := run_last bs.data.toList ⟨cx, x.L, x.u⟩ (hk.csi hv.ti) hrd.2.1 hrd.1
  rw [hd]
  rw [aget_taken hv.nd hg]
  have ek : (Cs.run true ⟨cx, x.L, x.u⟩ bs.data.toList).1.core.cx.kind = (Cs.run true ⟨cx, x.L, x.u⟩ bs.data.toList).1.cx.kind := rfl
  rw [ek]
  rcases hl with ⟨q1, q2⟩ | ⟨q1, a, q2, q3, q4⟩
  · left
    rw [if_neg (fun e => q2 e.1)]
    exact ⟨q1, rfl⟩
  · right
    rw [if_pos ⟨q1, rfl⟩]
    exact ⟨rfl, a, q2, q3, q4⟩
end

set_option maxHeartbeats 3200000 in
set_option maxRecDepth 100000 in
theorem drained_any (N : Nat) (w : World) (hT : Hid (Tb N w)) (hN : N ≤ w.heap.size) (v : Value) (os : List OpD) (ho : Hid (OpsAt N w v os)) (hol : os.length ≤ 1100000) (hsz : Hid (∀ o ∈ os, o.s.size ≤ 4000000)) (s : ByteArray) (hs : s.size ≤ 2000000) :
    Calls Tryz.prog 6 #[v, .string s] w fun e w' => e = .returned (.bool true) ∧ Below w.heap.size w w' := by
  obtain ⟨ao, cap, rfl⟩ := ho.out.form
  go_enter Tryz.func6, Tryz.ntmps6
  go_wp2_with fail
  refine (alive_any N w hT hN).mono ?_
  rintro e w1 ⟨rfl, hb1⟩
  have HB1 := hid hb1
  have HT1 := hid (hT.out.keep (hb1.mono hN))
  have hN1 : N ≤ w1.heap.size := Nat.le_trans hN hb1.size
  clear hb1
  go_wp2_with fail
  refine (new_any N w1 HT1 hN1).mono ?_
  rintro e w2 ⟨S, p, rfl, ha, hu2⟩
  have HA := hid ha
  have HB2 := hid (HB1.out.trans (hu2.below HB1.out.size (fun _ _ h => h)))
  have hN2 : w.heap.size ≤ w2.heap.size := HB2.out.size
  have HO2 := hid (ho.out.keep (HB2.out.mono hN))
  clear ha hu2
  generalize hF : (fun k => w1.heap.size ≤ k ∧ k < w2.heap.size) = F at HA
  have HF : Hid (∀ k, F k → w.heap.size ≤ k) := fun k hk => by
    rw [← hF] at hk
    exact Nat.le_trans HB1.out.size hk.1
  clear hF
  go_wp2_with fail
  refine (run_any HA _ os HO2 hol hsz).mono ?_
  rintro e w3 ⟨rfl, x3, hx3, hm3⟩
  have HX3 := hid hx3
  have HBelow : Hid (∀ wr y, SvX N F w2 wr S p y → Below w.heap.size w wr) := by
    intro wr y hy
    obtain ⟨F', Fs', _, h2, _⟩ := hy
    exact HB2.out.trans (h2.below hN2 (fun k hk e => by have := HF.out k e; omega))
  clear hx3 HA HO2 ho hsz HB2 HF HB1 HT1 hT
  go_wp2_with fail
  go_loopw [8] (fun iv wr => ∃ (x : Xs) (k : Nat), iv = .int .i64 k ∧ k ≤ os.length ∧ Hid (SvX N F w2 wr S p x ∧ x.made ≤ os.length ∧ ∀ j : Nat, j < k → Ready x j)) (fun iv _ => os.length - (intOf iv).toNat)
  case atStart => exact ⟨x3, 0, rfl, Nat.zero_le _, HX3.out, hm3, fun j hj => absurd hj (by omega)⟩
  case round =>
    obtain ⟨x, k, rfl, hk, hx⟩ := hrel
    clear HX3
    by_cases hlt : k < os.length
    · go_wp2_with fail
      refine (hx.out.1.take0 k).mono ?_
      rintro e w4 ⟨t, g, rfl, hta⟩
      have HTA := hid hta
      clear hta
      go_wp2_with fail
      go_loopg [9] g (fun gn tv wi => ∃ t' : List UInt8, tv = .string ⟨t'.toArray⟩ ∧ Hid (TkAt N F w2 wi S p x k gn t'))
      case atStart => exact ⟨t, rfl, HTA⟩
      case round =>
        obtain ⟨t', rfl, hti⟩ := hrel
        clear HTA
        by_cases ht0 : t' = []
        · subst ht0
          obtain ⟨x', hs', hm', hr', hj'⟩ := hti.out.done
          have HE : Hid (SvX N F w2 wr S p x' ∧ x'.made ≤ os.length ∧ ∀ j : Nat, j < k + 1 → Ready x' j) := by
            refine ⟨hs', by rw [hm']; exact hx.out.2.1, fun j hj => ?_⟩
            by_cases hjk : j = k
            · rw [hjk]; exact hr'
            · intro c cx hq
              rw [hj' j (by omega)] at hq
              exact hx.out.2.2 j (by omega) c cx hq
          clear hs' hm' hr' hj' hti hx
          go_wp2
          exact ⟨⟨x', k + 1, by go_num, by omega, HE⟩, by simp [intOf]; omega⟩
        · have eT : (t' == []) = false := by simpa using ht0
          have nT : (t' != []) = true := by simpa using ht0
          have HT := hid (hti.out.more ht0)
          clear hti ht0
          go_wp2_with fail
          refine HT.out.mono ?_
          rintro e w5 ⟨t2, g2, hg2, rfl, hta⟩
          have HTA := hid hta
          clear hta HT
          go_wp2_with fail
          go_roundg g2
          case measure => exact hg2
          case rel => exact ⟨t2, rfl, HTA⟩
    · obtain rfl : k = os.length := by omega
      go_wp2_with fail
      refine hx.out.1.drain.mono ?_
      rintro e w4 ⟨rfl, hx4⟩
      have HR4 : Hid (∀ j : Nat, j < os.length → Ready { x with dr := true } j) := hx.out.2.2
      have HX4 := hid hx4
      clear hx4 hx
      go_wp2_with fail
      refine (HX4.out.noConnect rfl).mono ?_
      rintro e w5 ⟨rfl, hx5⟩
      have HX5 := hid hx5
      clear hx5 HX4
      go_wp2_with fail
      go_loopw [12] (fun iv wr => ∃ (x : Xs) (k : Nat), iv = .int .i64 k ∧ k ≤ os.length ∧ Hid (SvX N F w2 wr S p x ∧ x.dr = true ∧ ∀ j : Nat, k ≤ j → j < os.length → Ready x j)) (fun iv _ => os.length - (intOf iv).toNat)
      case atStart => exact ⟨_, 0, rfl, Nat.zero_le _, HX5.out, rfl, fun j _ hj => HR4.out j hj⟩
      case round =>
        obtain ⟨y, k, rfl, hk, hy⟩ := hrel
        clear HX5 HR4
        by_cases hlt2 : k < os.length
        · go_wp2_with fail
          refine (hy.out.1.opened k).mono ?_
          rintro e w6 ⟨rfl, hx6⟩
          have HX6 := hid hx6
          clear hx6
          cases hg : aget y.K (k : Int) with
          | none =>
            have HE : Hid (SvX N F w2 w6 S p y ∧ y.dr = true ∧ ∀ j : Nat, k + 1 ≤ j → j < os.length → Ready y j) := ⟨HX6.out, hy.out.2.1, fun j h1 h2 => hy.out.2.2 j (by omega) h2⟩
            clear hy HX6 hg
            simp only [Option.isSome_none]
            go_wp2
            exact ⟨⟨y, k + 1, by go_num, by omega, HE⟩, by simp [intOf]; omega⟩
          | some q =>
            obtain ⟨c, cx⟩ := q
            have HAll := hid (HX6.out.all hy.out.2.1 hg (hy.out.2.2 k (Nat.le_refl _) hlt2) s hs)
            have HRest := hid (fun j : Nat => fun (h1 : k + 1 ≤ j) (h2 : j < os.length) => hy.out.2.2 j (by omega) h2)
            clear hy HX6 hg
            simp only [Option.isSome_some]
            go_wp2_with fail
            refine HAll.out.mono ?_
            rintro e w7 ⟨at_, out, z, rfl, hz, hzd, hzj, hout⟩
            have HE : Hid (∀ w8, SvX N F w2 w8 S p z → SvX N F w2 w8 S p z ∧ z.dr = true ∧ ∀ j : Nat, k + 1 ≤ j → j < os.length → Ready z j) := by
              intro w8 h8
              refine ⟨h8, hzd, fun j h1 h2 c cx hq => ?_⟩
              rw [hzj j (by omega)] at hq
              exact HRest.out j h1 h2 c cx hq
            have HZ := hid hz
            clear hz hzd hzj HAll HRest
            go_wp2_with fail
            refine (HZ.out.opened k).mono ?_
            rintro e w8 ⟨rfl, hx8⟩
            have HX8 := hid hx8
            clear hx8 HZ
            rcases hout with ⟨rfl, hop⟩ | ⟨hop, a, ha1, ha2, rfl⟩
            · rw [hop]
              have HF8 := hid (HE.out w8 HX8.out)
              clear HE HX8 hop
              go_wp2
              exact ⟨⟨z, k + 1, by go_num, by omega, HF8⟩, by simp [intOf]; omega⟩
            · rw [hop]
              obtain ⟨⟨r, hr1⟩, pp, qq, hr2⟩ := bytes_last a ha1
              have HFw := hid (fun W => farewell_any a.bytes (by omega) r (hid hr1) pp qq (hid hr2) W)
              have hne : a.bytes ≠ [] := bytes_pos a
              have eT : (a.bytes == []) = false := by simpa using hne
              have nT : (a.bytes != []) = true := by simpa using hne
              clear hop hr1 hr2 ha1 hne
              generalize a.bytes = out at *
              go_wp2_with fail
              refine (HFw.out w8).mono ?_
              rintro e w9 ⟨rfl, hu9⟩
              have HF9 : Hid (SvX N F w2 w9 S p z ∧ z.dr = true ∧ ∀ j : Nat, k + 1 ≤ j → j < os.length → Ready z j) := by
                obtain ⟨F', Fs', q1, q2, q3⟩ := HX8.out
                exact HE.out w9 (SvX.trans q2 q3 (q1.svx hu9))
              clear HE HX8 hu9 HFw
              go_wp2
              exact ⟨⟨z, k + 1, by go_num, by omega, HF9⟩, by simp [intOf]; omega⟩
        · have HB := hid (HBelow.out _ _ hy.out.1)
          obtain rfl : k = os.length := by omega
          clear hy
          go_wp2
          go_ret
          exact ⟨rfl, HB.out⟩

end Go.Proofs.YtohoddhegkjehaaGreatDoor
