/-
  Texts of one claim in one file: ZAlone, ZRetn. Each has its own sentence, with its conditions.
-/
import Derived.Test.YtjbcmedljgafkaaDoorZq43
import Derived.StillTailTactics
import Derived.Test.YtjbcmedljgafkaaDoorZq42
/-
  The program's own instructions that ask nothing (typed over the code of 8d70ec2; printed by tools/zalone.py). At most a thousand frames, each of twenty-seven numbers.
-/

namespace Go.Proofs.YtjbcmedljgafkaaDoor.pgm.exe
open Go.RowKit Go.ChangeShapes
open Go.Proofs.YtjbcmedljgafkaaDoor.objs (De zero cells3)
open Go.Proofs.YtjbcmedljgafkaaDoor.oper (insBox)
open Go.Proofs.YtjbcmedljgafkaaDoor.nums (NAt)
open Go.Proofs.YtjbcmedljgafkaaDoor.frames
set_option linter.unusedVariables false
set_option linter.unusedSimpArgs false

theorem push_d (A : Option Addr) (c : Nat) (l : List Fr) (v : Int) (w : World) (hI : In w A c l) :
    Calls Tryd.prog 65 #[.slice A l.length c, .int .i64 v] w fun e w' => ∃ A' c' b, e = .returned (.tuple #[.slice A' ((pushO l v).getD []).length c', .bool b]) ∧ Below w.heap.size w w' ∧ Hid (In w' A' c' ((pushO l v).getD [])) := by
  refine (push_odd A c l v w hI).mono fun e w' h => ?_
  obtain ⟨hb, h⟩ := h
  cases hp : pushO l v with
  | none =>
    rw [hp] at h
    exact ⟨none, 0, false, h, hb, Lib.hid (in_nil _)⟩
  | some y =>
    rw [hp] at h
    obtain ⟨A', c', h1, h2⟩ := h
    exact ⟨A', c', true, h1, hb, Lib.hid h2⟩

set_option maxRecDepth 100000 in
set_option maxHeartbeats 4000000 in
theorem al_push (A : Option Addr) (c : Nat) (rest : List Fr) (x2 x3 : Int) (B : Option Addr) (d : Nat) (v : List Int) (self now : Int) (w : World) (hI : In w A c rest) (hN : NAt w B v) :
    Calls Tryd.prog 44 #[.slice A rest.length c, .agg #[.int .i64 0, .int .i64 x2, .int .i64 x3], .slice B v.length d, .int .i64 self, .int .i64 now] w (OutPost (aloneR rest (0, x2, x3) v self now) w) := by
  have hb0 : Below w.heap.size w (w.alloc (insBox 0 x2 x3)) := (Below.refl _ w).alloc (Nat.le_refl _) _
  have HZ := Lib.hid (zo_new hb0)
  have HX := Lib.hid ((Below.heap_alloc (w.alloc (insBox 0 x2 x3)) (ocB zO) w.heap.size (by rw [World.size_alloc]; omega)).trans (heap_alloc_new w (insBox 0 x2 x3)))
  rw [show (w.alloc (insBox 0 x2 x3)).heap.size = w.heap.size + 1 from World.size_alloc _ _] at HZ
  unfold insBox at HZ HX
  have HI := Lib.hid hI
  have HN := Lib.hid hN
  obtain ⟨r, hR⟩ : ∃ r, r = aloneR rest (0, x2, x3) v self now := ⟨_, rfl⟩
  rw [← hR]
  have HR : Hid (r = quietO (pushO rest x2)) := Lib.hid (by rw [hR]; rfl)
  clear hR hb0
  clear hI hN
  go_enter Tryd.func44, Tryd.ntmps44
  go_upto_region 1 with (first | refine wo_alloc rfl rfl ?_)
  try simp only [Act.put, List.setIfInBounds_toArray, List.set_cons_zero, List.set_cons_succ, World.size_alloc]
  generalize (w.alloc (.cells #[.int .i64 0, .int .i64 x2, .int .i64 x3] 55)).alloc (ocB zO) = W1 at *
  obtain ⟨y0, y1, y2, -, -, -⟩ := cells3 HX.out
  have HP := Lib.hid (push_q A c rest x2 W1 (HI.out.next HZ.out.below))
  go_wp2_with fail
  refine HP.out.mono ?_
  rintro _ w4 ⟨A4, n4, c4, b4, rfl, hb4, HQ4⟩
  have HZ4 := Lib.hid (HZ.out.next hb4)
  have HU := Lib.hid (quiet_any A4 n4 c4 b4 w4)
  clear hb4 HP y0 y1 y2 HX HZ
  go_wp2_with fail
  refine HU.out.mono ?_
  rintro _ wz ⟨rfl, hbz⟩
  have HZz := Lib.hid (HZ4.out.next hbz)
  have HQz := Lib.hid (HQ4.out.next hbz)
  clear hbz HU
  go_wp2_with (first | refine wo_store rfl _ _ rfl (w.heap.size + 1) zO ⟨b4, A4, n4, c4, noE, 0⟩ rfl rfl HZz.out.block ?_)
  rw [HR.out]
  exact oc_done Tryd.results44 rfl rfl HZz.out HQz.out

set_option maxRecDepth 100000 in
set_option maxHeartbeats 4000000 in
theorem al_self (A : Option Addr) (c : Nat) (rest : List Fr) (x2 x3 : Int) (B : Option Addr) (d : Nat) (v : List Int) (self now : Int) (w : World) (hI : In w A c rest) (hN : NAt w B v) :
    Calls Tryd.prog 44 #[.slice A rest.length c, .agg #[.int .i64 22, .int .i64 x2, .int .i64 x3], .slice B v.length d, .int .i64 self, .int .i64 now] w (OutPost (aloneR rest (22, x2, x3) v self now) w) := by
  have hb0 : Below w.heap.size w (w.alloc (insBox 22 x2 x3)) := (Below.refl _ w).alloc (Nat.le_refl _) _
  have HZ := Lib.hid (zo_new hb0)
  have HX := Lib.hid ((Below.heap_alloc (w.alloc (insBox 22 x2 x3)) (ocB zO) w.heap.size (by rw [World.size_alloc]; omega)).trans (heap_alloc_new w (insBox 22 x2 x3)))
  rw [show (w.alloc (insBox 22 x2 x3)).heap.size = w.heap.size + 1 from World.size_alloc _ _] at HZ
  unfold insBox at HZ HX
  have HI := Lib.hid hI
  have HN := Lib.hid hN
  obtain ⟨r, hR⟩ : ∃ r, r = aloneR rest (22, x2, x3) v self now := ⟨_, rfl⟩
  rw [← hR]
  have HR : Hid (r = quietO (pushO rest self)) := Lib.hid (by rw [hR]; rfl)
  clear hR hb0
  clear hI hN
  go_enter Tryd.func44, Tryd.ntmps44
  go_upto_region 1 with (first | refine wo_alloc rfl rfl ?_)
  try simp only [Act.put, List.setIfInBounds_toArray, List.set_cons_zero, List.set_cons_succ, World.size_alloc]
  generalize (w.alloc (.cells #[.int .i64 22, .int .i64 x2, .int .i64 x3] 55)).alloc (ocB zO) = W1 at *
  obtain ⟨y0, y1, y2, -, -, -⟩ := cells3 HX.out
  have HP := Lib.hid (push_q A c rest self W1 (HI.out.next HZ.out.below))
  go_wp2_with fail
  refine HP.out.mono ?_
  rintro _ w4 ⟨A4, n4, c4, b4, rfl, hb4, HQ4⟩
  have HZ4 := Lib.hid (HZ.out.next hb4)
  have HU := Lib.hid (quiet_any A4 n4 c4 b4 w4)
  clear hb4 HP y0 y1 y2 HX HZ
  go_wp2_with fail
  refine HU.out.mono ?_
  rintro _ wz ⟨rfl, hbz⟩
  have HZz := Lib.hid (HZ4.out.next hbz)
  have HQz := Lib.hid (HQ4.out.next hbz)
  clear hbz HU
  go_wp2_with (first | refine wo_store rfl _ _ rfl (w.heap.size + 1) zO ⟨b4, A4, n4, c4, noE, 0⟩ rfl rfl HZz.out.block ?_)
  rw [HR.out]
  exact oc_done Tryd.results44 rfl rfl HZz.out HQz.out

set_option maxRecDepth 100000 in
set_option maxHeartbeats 4000000 in
theorem al_now (A : Option Addr) (c : Nat) (rest : List Fr) (x2 x3 : Int) (B : Option Addr) (d : Nat) (v : List Int) (self now : Int) (w : World) (hI : In w A c rest) (hN : NAt w B v) :
    Calls Tryd.prog 44 #[.slice A rest.length c, .agg #[.int .i64 23, .int .i64 x2, .int .i64 x3], .slice B v.length d, .int .i64 self, .int .i64 now] w (OutPost (aloneR rest (23, x2, x3) v self now) w) := by
  have hb0 : Below w.heap.size w (w.alloc (insBox 23 x2 x3)) := (Below.refl _ w).alloc (Nat.le_refl _) _
  have HZ := Lib.hid (zo_new hb0)
  have HX := Lib.hid ((Below.heap_alloc (w.alloc (insBox 23 x2 x3)) (ocB zO) w.heap.size (by rw [World.size_alloc]; omega)).trans (heap_alloc_new w (insBox 23 x2 x3)))
  rw [show (w.alloc (insBox 23 x2 x3)).heap.size = w.heap.size + 1 from World.size_alloc _ _] at HZ
  unfold insBox at HZ HX
  have HI := Lib.hid hI
  have HN := Lib.hid hN
  obtain ⟨r, hR⟩ : ∃ r, r = aloneR rest (23, x2, x3) v self now := ⟨_, rfl⟩
  rw [← hR]
  have HR : Hid (r = quietO (pushO rest now)) := Lib.hid (by rw [hR]; rfl)
  clear hR hb0
  clear hI hN
  go_enter Tryd.func44, Tryd.ntmps44
  go_upto_region 1 with (first | refine wo_alloc rfl rfl ?_)
  try simp only [Act.put, List.setIfInBounds_toArray, List.set_cons_zero, List.set_cons_succ, World.size_alloc]
  generalize (w.alloc (.cells #[.int .i64 23, .int .i64 x2, .int .i64 x3] 55)).alloc (ocB zO) = W1 at *
  obtain ⟨y0, y1, y2, -, -, -⟩ := cells3 HX.out
  have HP := Lib.hid (push_q A c rest now W1 (HI.out.next HZ.out.below))
  go_wp2_with fail
  refine HP.out.mono ?_
  rintro _ w4 ⟨A4, n4, c4, b4, rfl, hb4, HQ4⟩
  have HZ4 := Lib.hid (HZ.out.next hb4)
  have HU := Lib.hid (quiet_any A4 n4 c4 b4 w4)
  clear hb4 HP y0 y1 y2 HX HZ
  go_wp2_with fail
  refine HU.out.mono ?_
  rintro _ wz ⟨rfl, hbz⟩
  have HZz := Lib.hid (HZ4.out.next hbz)
  have HQz := Lib.hid (HQ4.out.next hbz)
  clear hbz HU
  go_wp2_with (first | refine wo_store rfl _ _ rfl (w.heap.size + 1) zO ⟨b4, A4, n4, c4, noE, 0⟩ rfl rfl HZz.out.block ?_)
  rw [HR.out]
  exact oc_done Tryd.results44 rfl rfl HZz.out HQz.out

set_option maxRecDepth 100000 in
set_option maxHeartbeats 4000000 in
theorem al_load (A : Option Addr) (c : Nat) (rest : List Fr) (x2 x3 : Int) (B : Option Addr) (d : Nat) (v : List Int) (self now : Int) (w : World) (hI : In w A c rest) (hN : NAt w B v) :
    Calls Tryd.prog 44 #[.slice A rest.length c, .agg #[.int .i64 1, .int .i64 x2, .int .i64 x3], .slice B v.length d, .int .i64 self, .int .i64 now] w (OutPost (aloneR rest (1, x2, x3) v self now) w) := by
  have hb0 : Below w.heap.size w (w.alloc (insBox 1 x2 x3)) := (Below.refl _ w).alloc (Nat.le_refl _) _
  have HZ := Lib.hid (zo_new hb0)
  have HX := Lib.hid ((Below.heap_alloc (w.alloc (insBox 1 x2 x3)) (ocB zO) w.heap.size (by rw [World.size_alloc]; omega)).trans (heap_alloc_new w (insBox 1 x2 x3)))
  rw [show (w.alloc (insBox 1 x2 x3)).heap.size = w.heap.size + 1 from World.size_alloc _ _] at HZ
  unfold insBox at HZ HX
  have HI := Lib.hid hI
  have HN := Lib.hid hN
  obtain ⟨r, hR⟩ : ∃ r, r = aloneR rest (1, x2, x3) v self now := ⟨_, rfl⟩
  rw [← hR]
  have HR : Hid (r = quietO (pushO rest (localO rest x2))) := Lib.hid (by rw [hR]; rfl)
  clear hR hb0
  clear hI hN
  go_enter Tryd.func44, Tryd.ntmps44
  go_upto_region 1 with (first | refine wo_alloc rfl rfl ?_)
  try simp only [Act.put, List.setIfInBounds_toArray, List.set_cons_zero, List.set_cons_succ, World.size_alloc]
  generalize (w.alloc (.cells #[.int .i64 1, .int .i64 x2, .int .i64 x3] 55)).alloc (ocB zO) = W1 at *
  obtain ⟨y0, y1, y2, -, -, -⟩ := cells3 HX.out
  have HL := Lib.hid (local_odd A c rest x2 W1 (HI.out.next HZ.out.below))
  generalize localO rest x2 = lv at *
  go_wp2_with fail
  refine HL.out.mono ?_
  rintro _ w3 ⟨rfl, hb3⟩
  have HZ3 := Lib.hid (HZ.out.next hb3)
  clear hb3 HL y0 y1 y2 HX HZ
  have HP := Lib.hid (push_q A c rest lv w3 (HI.out.next HZ3.out.below))
  go_wp2_with fail
  refine HP.out.mono ?_
  rintro _ w4 ⟨A4, n4, c4, b4, rfl, hb4, HQ4⟩
  have HZ4 := Lib.hid (HZ3.out.next hb4)
  have HU := Lib.hid (quiet_any A4 n4 c4 b4 w4)
  clear hb4 HP HZ3
  go_wp2_with fail
  refine HU.out.mono ?_
  rintro _ wz ⟨rfl, hbz⟩
  have HZz := Lib.hid (HZ4.out.next hbz)
  have HQz := Lib.hid (HQ4.out.next hbz)
  clear hbz HU
  go_wp2_with (first | refine wo_store rfl _ _ rfl (w.heap.size + 1) zO ⟨b4, A4, n4, c4, noE, 0⟩ rfl rfl HZz.out.block ?_)
  rw [HR.out]
  exact oc_done Tryd.results44 rfl rfl HZz.out HQz.out

set_option maxRecDepth 100000 in
set_option maxHeartbeats 4000000 in
theorem al_store (A : Option Addr) (c : Nat) (rest : List Fr) (x2 x3 : Int) (B : Option Addr) (d : Nat) (v : List Int) (self now : Int) (w : World) (hI : In w A c rest) (hN : NAt w B v) (hv : 0 < v.length) :
    Calls Tryd.prog 44 #[.slice A rest.length c, .agg #[.int .i64 2, .int .i64 x2, .int .i64 x3], .slice B v.length d, .int .i64 self, .int .i64 now] w (OutPost (aloneR rest (2, x2, x3) v self now) w) := by
  have hb0 : Below w.heap.size w (w.alloc (insBox 2 x2 x3)) := (Below.refl _ w).alloc (Nat.le_refl _) _
  have HZ := Lib.hid (zo_new hb0)
  have HX := Lib.hid ((Below.heap_alloc (w.alloc (insBox 2 x2 x3)) (ocB zO) w.heap.size (by rw [World.size_alloc]; omega)).trans (heap_alloc_new w (insBox 2 x2 x3)))
  rw [show (w.alloc (insBox 2 x2 x3)).heap.size = w.heap.size + 1 from World.size_alloc _ _] at HZ
  unfold insBox at HZ HX
  have HI := Lib.hid hI
  have HN := Lib.hid hN
  obtain ⟨r, hR⟩ : ∃ r, r = aloneR rest (2, x2, x3) v self now := ⟨_, rfl⟩
  rw [← hR]
  have HR : Hid (r = quietO (some (storeO rest x2 (v.getD 0 0)))) := Lib.hid (by rw [hR]; rfl)
  clear hR hb0
  obtain ⟨b2, o2, rfl, hb2, hc2⟩ := hN 0 hv
  rw [Nat.add_zero] at hc2
  have HC2 := Lib.hid (And.intro hb2 hc2)
  have hv0 : (0 : Int) < (v.length : Int) := by omega
  clear hb2 hc2
  generalize v.getD 0 0 = v0 at *
  clear hI hN
  go_enter Tryd.func44, Tryd.ntmps44
  go_upto_region 1 with (first | refine wo_alloc rfl rfl ?_)
  try simp only [Act.put, List.setIfInBounds_toArray, List.set_cons_zero, List.set_cons_succ, World.size_alloc]
  generalize (w.alloc (.cells #[.int .i64 2, .int .i64 x2, .int .i64 x3] 55)).alloc (ocB zO) = W1 at *
  obtain ⟨y0, y1, y2, -, -, -⟩ := cells3 HX.out
  have c2 := (HZ.out.below.cell (p := ⟨b2, o2, none⟩) HC2.out.1).trans HC2.out.2
  go_upto_region 7 with fail
  go_still_tail 6, (by kernel_rfl)
  change wpList _ _ _ _ _ W1.drew
  have HZd := Lib.hid (HZ.out.next (Below.refl _ _).drew)
  have HS := Lib.hid (store_odd A c rest x2 v0 W1.drew (HI.out.next HZd.out.below))
  unfold FrsPost at HS
  generalize W1.drew = W2 at *
  clear y0 y1 y2 HX HZ c2
  go_wp2_with fail
  refine HS.out.mono ?_
  rintro _ w4 ⟨A4, c4, rfl, hI4, hb4⟩
  have HZ4 := Lib.hid (HZd.out.next hb4)
  have HQ4 : Hid (QI w4 (some (storeO rest x2 v0)) A4 (storeO rest x2 v0).length c4 true) := Lib.hid ⟨rfl, rfl, hI4⟩
  clear hI4 HZd
  generalize storeO rest x2 v0 = rs at *
  have HU := Lib.hid (quiet_any A4 rs.length c4 true w4)
  clear hb4 HS
  go_wp2_with fail
  refine HU.out.mono ?_
  rintro _ wz ⟨rfl, hbz⟩
  have HZz := Lib.hid (HZ4.out.next hbz)
  have HQz := Lib.hid (HQ4.out.next hbz)
  clear hbz HU
  go_wp2_with (first | refine wo_store rfl _ _ rfl (w.heap.size + 1) zO ⟨true, A4, rs.length, c4, noE, 0⟩ rfl rfl HZz.out.block ?_)
  rw [HR.out]
  exact oc_done Tryd.results44 rfl rfl HZz.out HQz.out

set_option maxRecDepth 100000 in
set_option maxHeartbeats 4000000 in
theorem al_dup (A : Option Addr) (c : Nat) (rest : List Fr) (x2 x3 : Int) (B : Option Addr) (d : Nat) (v : List Int) (self now : Int) (w : World) (hI : In w A c rest) (hN : NAt w B v) (hv : 0 < v.length) :
    Calls Tryd.prog 44 #[.slice A rest.length c, .agg #[.int .i64 16, .int .i64 x2, .int .i64 x3], .slice B v.length d, .int .i64 self, .int .i64 now] w (OutPost (aloneR rest (16, x2, x3) v self now) w) := by
  have hb0 : Below w.heap.size w (w.alloc (insBox 16 x2 x3)) := (Below.refl _ w).alloc (Nat.le_refl _) _
  have HZ := Lib.hid (zo_new hb0)
  have HX := Lib.hid ((Below.heap_alloc (w.alloc (insBox 16 x2 x3)) (ocB zO) w.heap.size (by rw [World.size_alloc]; omega)).trans (heap_alloc_new w (insBox 16 x2 x3)))
  rw [show (w.alloc (insBox 16 x2 x3)).heap.size = w.heap.size + 1 from World.size_alloc _ _] at HZ
  unfold insBox at HZ HX
  have HI := Lib.hid hI
  have HN := Lib.hid hN
  obtain ⟨r, hR⟩ : ∃ r, r = aloneR rest (16, x2, x3) v self now := ⟨_, rfl⟩
  rw [← hR]
  have HR : Hid (r = quietO (pushO ((pushO rest (v.getD 0 0)).getD []) (v.getD 0 0))) := Lib.hid (by rw [hR]; rfl)
  clear hR hb0
  obtain ⟨b2, o2, rfl, hb2, hc2⟩ := hN 0 hv
  rw [Nat.add_zero] at hc2
  have HC2 := Lib.hid (And.intro hb2 hc2)
  have hv0 : (0 : Int) < (v.length : Int) := by omega
  clear hb2 hc2
  generalize v.getD 0 0 = v0 at *
  clear hI hN
  go_enter Tryd.func44, Tryd.ntmps44
  go_upto_region 1 with (first | refine wo_alloc rfl rfl ?_)
  try simp only [Act.put, List.setIfInBounds_toArray, List.set_cons_zero, List.set_cons_succ, World.size_alloc]
  generalize (w.alloc (.cells #[.int .i64 16, .int .i64 x2, .int .i64 x3] 55)).alloc (ocB zO) = W1 at *
  obtain ⟨y0, y1, y2, -, -, -⟩ := cells3 HX.out
  have c2 := (HZ.out.below.cell (p := ⟨b2, o2, none⟩) HC2.out.1).trans HC2.out.2
  have HP := Lib.hid (push_d A c rest v0 W1 (HI.out.next HZ.out.below))
  generalize (pushO rest v0).getD [] = ra at *
  go_wp2_with fail
  refine HP.out.mono ?_
  rintro _ w3 ⟨A3, c3, b3, rfl, hb3, HI3⟩
  have HZ3 := Lib.hid (HZ.out.next hb3)
  have d2 := (hb3.cell (p := ⟨b2, o2, none⟩) (by show b2 < W1.heap.size; have := HC2.out.1; have := HZ.out.below.size; omega)).trans c2
  clear hb3 HP y0 y1 y2 HX HZ c2
  have HP := Lib.hid (push_q A3 c3 ra v0 w3 HI3.out)
  go_wp2_with fail
  refine HP.out.mono ?_
  rintro _ w4 ⟨A4, n4, c4, b4, rfl, hb4, HQ4⟩
  have HZ4 := Lib.hid (HZ3.out.next hb4)
  have HU := Lib.hid (quiet_any A4 n4 c4 b4 w4)
  clear hb4 HP HZ3 d2
  go_wp2_with fail
  refine HU.out.mono ?_
  rintro _ wz ⟨rfl, hbz⟩
  have HZz := Lib.hid (HZ4.out.next hbz)
  have HQz := Lib.hid (HQ4.out.next hbz)
  clear hbz HU
  go_wp2_with (first | refine wo_store rfl _ _ rfl (w.heap.size + 1) zO ⟨b4, A4, n4, c4, noE, 0⟩ rfl rfl HZz.out.block ?_)
  rw [HR.out]
  exact oc_done Tryd.results44 rfl rfl HZz.out HQz.out

set_option maxRecDepth 100000 in
set_option maxHeartbeats 4000000 in
theorem al_drop (A : Option Addr) (c : Nat) (rest : List Fr) (x2 x3 : Int) (B : Option Addr) (d : Nat) (v : List Int) (self now : Int) (w : World) (hI : In w A c rest) (hN : NAt w B v) :
    Calls Tryd.prog 44 #[.slice A rest.length c, .agg #[.int .i64 17, .int .i64 x2, .int .i64 x3], .slice B v.length d, .int .i64 self, .int .i64 now] w (OutPost (aloneR rest (17, x2, x3) v self now) w) := by
  have hb0 : Below w.heap.size w (w.alloc (insBox 17 x2 x3)) := (Below.refl _ w).alloc (Nat.le_refl _) _
  have HZ := Lib.hid (zo_new hb0)
  have HX := Lib.hid ((Below.heap_alloc (w.alloc (insBox 17 x2 x3)) (ocB zO) w.heap.size (by rw [World.size_alloc]; omega)).trans (heap_alloc_new w (insBox 17 x2 x3)))
  rw [show (w.alloc (insBox 17 x2 x3)).heap.size = w.heap.size + 1 from World.size_alloc _ _] at HZ
  unfold insBox at HZ HX
  have HI := Lib.hid hI
  have HN := Lib.hid hN
  obtain ⟨r, hR⟩ : ∃ r, r = aloneR rest (17, x2, x3) v self now := ⟨_, rfl⟩
  rw [← hR]
  have HR : Hid (r = quietO (some rest)) := Lib.hid (by rw [hR]; rfl)
  clear hR hb0
  clear hI hN
  go_enter Tryd.func44, Tryd.ntmps44
  go_upto_region 1 with (first | refine wo_alloc rfl rfl ?_)
  try simp only [Act.put, List.setIfInBounds_toArray, List.set_cons_zero, List.set_cons_succ, World.size_alloc]
  generalize (w.alloc (.cells #[.int .i64 17, .int .i64 x2, .int .i64 x3] 55)).alloc (ocB zO) = W1 at *
  obtain ⟨y0, y1, y2, -, -, -⟩ := cells3 HX.out
  have HQ4 : Hid (QI W1 (some rest) A rest.length c true) := Lib.hid ⟨rfl, rfl, HI.out.next HZ.out.below⟩
  have HU := Lib.hid (quiet_any A rest.length c true W1)
  clear y1 y2 HX
  go_wp2_with fail
  refine HU.out.mono ?_
  rintro _ wz ⟨rfl, hbz⟩
  have HZz := Lib.hid (HZ.out.next hbz)
  have HQz := Lib.hid (HQ4.out.next hbz)
  clear hbz HU
  go_wp2_with (first | refine wo_store rfl _ _ rfl (w.heap.size + 1) zO ⟨true, A, rest.length, c, noE, 0⟩ rfl rfl HZz.out.block ?_)
  rw [HR.out]
  exact oc_done Tryd.results44 rfl rfl HZz.out HQz.out

set_option maxRecDepth 100000 in
set_option maxHeartbeats 4000000 in
theorem al_jump (A : Option Addr) (c : Nat) (rest : List Fr) (x2 x3 : Int) (B : Option Addr) (d : Nat) (v : List Int) (self now : Int) (w : World) (hI : In w A c rest) (hN : NAt w B v) :
    Calls Tryd.prog 44 #[.slice A rest.length c, .agg #[.int .i64 18, .int .i64 x2, .int .i64 x3], .slice B v.length d, .int .i64 self, .int .i64 now] w (OutPost (aloneR rest (18, x2, x3) v self now) w) := by
  have hb0 : Below w.heap.size w (w.alloc (insBox 18 x2 x3)) := (Below.refl _ w).alloc (Nat.le_refl _) _
  have HZ := Lib.hid (zo_new hb0)
  have HX := Lib.hid ((Below.heap_alloc (w.alloc (insBox 18 x2 x3)) (ocB zO) w.heap.size (by rw [World.size_alloc]; omega)).trans (heap_alloc_new w (insBox 18 x2 x3)))
  rw [show (w.alloc (insBox 18 x2 x3)).heap.size = w.heap.size + 1 from World.size_alloc _ _] at HZ
  unfold insBox at HZ HX
  have HI := Lib.hid hI
  have HN := Lib.hid hN
  obtain ⟨r, hR⟩ : ∃ r, r = aloneR rest (18, x2, x3) v self now := ⟨_, rfl⟩
  rw [← hR]
  have HR : Hid (r = quietO (some (goO rest x2))) := Lib.hid (by rw [hR]; rfl)
  clear hR hb0
  clear hI hN
  go_enter Tryd.func44, Tryd.ntmps44
  go_upto_region 1 with (first | refine wo_alloc rfl rfl ?_)
  try simp only [Act.put, List.setIfInBounds_toArray, List.set_cons_zero, List.set_cons_succ, World.size_alloc]
  generalize (w.alloc (.cells #[.int .i64 18, .int .i64 x2, .int .i64 x3] 55)).alloc (ocB zO) = W1 at *
  obtain ⟨y0, y1, y2, -, -, -⟩ := cells3 HX.out
  have HS := Lib.hid (go_odd A c rest x2 W1 (HI.out.next HZ.out.below))
  unfold FrsPost at HS
  generalize goO rest x2 = rs at *
  go_wp2_with fail
  refine HS.out.mono ?_
  rintro _ w4 ⟨A4, c4, rfl, hI4, hb4⟩
  have HZ4 := Lib.hid (HZ.out.next hb4)
  have HQ4 : Hid (QI w4 (some rs) A4 rs.length c4 true) := Lib.hid ⟨rfl, rfl, hI4⟩
  clear hI4
  have HU := Lib.hid (quiet_any A4 rs.length c4 true w4)
  clear hb4 HS y0 y1 y2 HX HZ
  go_wp2_with fail
  refine HU.out.mono ?_
  rintro _ wz ⟨rfl, hbz⟩
  have HZz := Lib.hid (HZ4.out.next hbz)
  have HQz := Lib.hid (HQ4.out.next hbz)
  clear hbz HU
  go_wp2_with (first | refine wo_store rfl _ _ rfl (w.heap.size + 1) zO ⟨true, A4, rs.length, c4, noE, 0⟩ rfl rfl HZz.out.block ?_)
  rw [HR.out]
  exact oc_done Tryd.results44 rfl rfl HZz.out HQz.out

set_option maxRecDepth 100000 in
set_option maxHeartbeats 4000000 in
theorem al_zero (A : Option Addr) (c : Nat) (rest : List Fr) (x2 x3 : Int) (B : Option Addr) (d : Nat) (v : List Int) (self now : Int) (w : World) (hI : In w A c rest) (hN : NAt w B v) (hv : 0 < v.length) (hz : v.getD 0 0 = 0) :
    Calls Tryd.prog 44 #[.slice A rest.length c, .agg #[.int .i64 19, .int .i64 x2, .int .i64 x3], .slice B v.length d, .int .i64 self, .int .i64 now] w (OutPost (aloneR rest (19, x2, x3) v self now) w) := by
  have hb0 : Below w.heap.size w (w.alloc (insBox 19 x2 x3)) := (Below.refl _ w).alloc (Nat.le_refl _) _
  have HZ := Lib.hid (zo_new hb0)
  have HX := Lib.hid ((Below.heap_alloc (w.alloc (insBox 19 x2 x3)) (ocB zO) w.heap.size (by rw [World.size_alloc]; omega)).trans (heap_alloc_new w (insBox 19 x2 x3)))
  rw [show (w.alloc (insBox 19 x2 x3)).heap.size = w.heap.size + 1 from World.size_alloc _ _] at HZ
  unfold insBox at HZ HX
  have HI := Lib.hid hI
  have HN := Lib.hid hN
  obtain ⟨r, hR⟩ : ∃ r, r = aloneR rest (19, x2, x3) v self now := ⟨_, rfl⟩
  rw [← hR]
  have HR : Hid (r = quietO (some (goO rest x2))) := Lib.hid (by rw [hR]; show quietO (some (if v.getD 0 0 = 0 then _ else _)) = _; rw [if_pos hz])
  clear hR hb0
  obtain ⟨b2, o2, rfl, hb2, hc2⟩ := hN 0 hv
  rw [Nat.add_zero] at hc2
  have HC2 := Lib.hid (And.intro hb2 hc2)
  have hv0 : (0 : Int) < (v.length : Int) := by omega
  clear hb2 hc2
  have e0 : (v.getD 0 0 == 0) = true := by simpa using hz
  generalize v.getD 0 0 = v0 at *
  clear hz
  clear hI hN
  go_enter Tryd.func44, Tryd.ntmps44
  go_upto_region 1 with (first | refine wo_alloc rfl rfl ?_)
  try simp only [Act.put, List.setIfInBounds_toArray, List.set_cons_zero, List.set_cons_succ, World.size_alloc]
  generalize (w.alloc (.cells #[.int .i64 19, .int .i64 x2, .int .i64 x3] 55)).alloc (ocB zO) = W1 at *
  obtain ⟨y0, y1, y2, -, -, -⟩ := cells3 HX.out
  have c2 := (HZ.out.below.cell (p := ⟨b2, o2, none⟩) HC2.out.1).trans HC2.out.2
  have HS := Lib.hid (go_odd A c rest x2 W1 (HI.out.next HZ.out.below))
  unfold FrsPost at HS
  generalize goO rest x2 = rs at *
  go_wp2_with fail
  refine HS.out.mono ?_
  rintro _ w4 ⟨A4, c4, rfl, hI4, hb4⟩
  have HZ4 := Lib.hid (HZ.out.next hb4)
  have HQ4 : Hid (QI w4 (some rs) A4 rs.length c4 true) := Lib.hid ⟨rfl, rfl, hI4⟩
  clear hI4
  have HU := Lib.hid (quiet_any A4 rs.length c4 true w4)
  clear hb4 HS y0 y1 y2 HX HZ c2
  go_wp2_with fail
  refine HU.out.mono ?_
  rintro _ wz ⟨rfl, hbz⟩
  have HZz := Lib.hid (HZ4.out.next hbz)
  have HQz := Lib.hid (HQ4.out.next hbz)
  clear hbz HU
  go_wp2_with (first | refine wo_store rfl _ _ rfl (w.heap.size + 1) zO ⟨true, A4, rs.length, c4, noE, 0⟩ rfl rfl HZz.out.block ?_)
  rw [HR.out]
  exact oc_done Tryd.results44 rfl rfl HZz.out HQz.out

set_option maxRecDepth 100000 in
set_option maxHeartbeats 4000000 in
theorem al_more (A : Option Addr) (c : Nat) (rest : List Fr) (x2 x3 : Int) (B : Option Addr) (d : Nat) (v : List Int) (self now : Int) (w : World) (hI : In w A c rest) (hN : NAt w B v) (hv : 0 < v.length) (hz : v.getD 0 0 ≠ 0) :
    Calls Tryd.prog 44 #[.slice A rest.length c, .agg #[.int .i64 19, .int .i64 x2, .int .i64 x3], .slice B v.length d, .int .i64 self, .int .i64 now] w (OutPost (aloneR rest (19, x2, x3) v self now) w) := by
  have hb0 : Below w.heap.size w (w.alloc (insBox 19 x2 x3)) := (Below.refl _ w).alloc (Nat.le_refl _) _
  have HZ := Lib.hid (zo_new hb0)
  have HX := Lib.hid ((Below.heap_alloc (w.alloc (insBox 19 x2 x3)) (ocB zO) w.heap.size (by rw [World.size_alloc]; omega)).trans (heap_alloc_new w (insBox 19 x2 x3)))
  rw [show (w.alloc (insBox 19 x2 x3)).heap.size = w.heap.size + 1 from World.size_alloc _ _] at HZ
  unfold insBox at HZ HX
  have HI := Lib.hid hI
  have HN := Lib.hid hN
  obtain ⟨r, hR⟩ : ∃ r, r = aloneR rest (19, x2, x3) v self now := ⟨_, rfl⟩
  rw [← hR]
  have HR : Hid (r = quietO (some rest)) := Lib.hid (by rw [hR]; show quietO (some (if v.getD 0 0 = 0 then _ else _)) = _; rw [if_neg hz])
  clear hR hb0
  obtain ⟨b2, o2, rfl, hb2, hc2⟩ := hN 0 hv
  rw [Nat.add_zero] at hc2
  have HC2 := Lib.hid (And.intro hb2 hc2)
  have hv0 : (0 : Int) < (v.length : Int) := by omega
  clear hb2 hc2
  have e0 : (v.getD 0 0 == 0) = false := by simpa using hz
  generalize v.getD 0 0 = v0 at *
  clear hz
  clear hI hN
  go_enter Tryd.func44, Tryd.ntmps44
  go_upto_region 1 with (first | refine wo_alloc rfl rfl ?_)
  try simp only [Act.put, List.setIfInBounds_toArray, List.set_cons_zero, List.set_cons_succ, World.size_alloc]
  generalize (w.alloc (.cells #[.int .i64 19, .int .i64 x2, .int .i64 x3] 55)).alloc (ocB zO) = W1 at *
  obtain ⟨y0, y1, y2, -, -, -⟩ := cells3 HX.out
  have c2 := (HZ.out.below.cell (p := ⟨b2, o2, none⟩) HC2.out.1).trans HC2.out.2
  have HQ4 : Hid (QI W1 (some rest) A rest.length c true) := Lib.hid ⟨rfl, rfl, HI.out.next HZ.out.below⟩
  have HU := Lib.hid (quiet_any A rest.length c true W1)
  clear y1 y2 HX
  go_wp2_with fail
  refine HU.out.mono ?_
  rintro _ wz ⟨rfl, hbz⟩
  have HZz := Lib.hid (HZ.out.next hbz)
  have HQz := Lib.hid (HQ4.out.next hbz)
  clear hbz HU
  go_wp2_with (first | refine wo_store rfl _ _ rfl (w.heap.size + 1) zO ⟨true, A, rest.length, c, noE, 0⟩ rfl rfl HZz.out.block ?_)
  rw [HR.out]
  exact oc_done Tryd.results44 rfl rfl HZz.out HQz.out

theorem al_comp (rest : List Fr) (o x2 x3 : Int) (v : List Int) (self now : Int) (h : 3 ≤ o ∧ o ≤ 15) : aloneR rest (o, x2, x3) v self now = compR rest o v := by
  unfold aloneR
  dsimp only
  rw [if_neg (by omega), if_neg (by omega), if_neg (by omega), if_neg (by omega), if_neg (by omega), if_neg (by omega), if_neg (by omega), if_neg (by omega), if_neg (by omega)]

set_option maxRecDepth 100000 in
set_option maxHeartbeats 4000000 in
theorem al_word (A : Option Addr) (c : Nat) (rest : List Fr) (o : Int) (x2 x3 : Int) (B : Option Addr) (d : Nat) (v : List Int) (self now : Int) (w : World) (hI : In w A c rest) (hN : NAt w B v) (hop : 3 ≤ o ∧ o ≤ 15) :
    Calls Tryd.prog 44 #[.slice A rest.length c, .agg #[.int .i64 o, .int .i64 x2, .int .i64 x3], .slice B v.length d, .int .i64 self, .int .i64 now] w (OutPost (aloneR rest (o, x2, x3) v self now) w) := by
  have hb0 : Below w.heap.size w (w.alloc (insBox o x2 x3)) := (Below.refl _ w).alloc (Nat.le_refl _) _
  have HZ := Lib.hid (zo_new hb0)
  have HX := Lib.hid ((Below.heap_alloc (w.alloc (insBox o x2 x3)) (ocB zO) w.heap.size (by rw [World.size_alloc]; omega)).trans (heap_alloc_new w (insBox o x2 x3)))
  rw [show (w.alloc (insBox o x2 x3)).heap.size = w.heap.size + 1 from World.size_alloc _ _] at HZ
  unfold insBox at HZ HX
  have HI := Lib.hid hI
  have HN := Lib.hid hN
  obtain ⟨r, hR⟩ : ∃ r, r = aloneR rest (o, x2, x3) v self now := ⟨_, rfl⟩
  rw [← hR]
  have HR : Hid (r = compR rest o v) := Lib.hid (by rw [hR]; exact al_comp rest _ x2 x3 v self now hop)
  clear hR hb0
  have e0 : (o == 0) = false := by simp; omega
  have e1 : (o == 1) = false := by simp; omega
  have e2 : (o == 2) = false := by simp; omega
  have e16 : (o == 16) = false := by simp; omega
  have e17 : (o == 17) = false := by simp; omega
  have e18 : (o == 18) = false := by simp; omega
  have e19 : (o == 19) = false := by simp; omega
  have e22 : (o == 22) = false := by simp; omega
  have e23 : (o == 23) = false := by simp; omega
  clear hI hN
  go_enter Tryd.func44, Tryd.ntmps44
  go_upto_region 1 with (first | refine wo_alloc rfl rfl ?_)
  try simp only [Act.put, List.setIfInBounds_toArray, List.set_cons_zero, List.set_cons_succ, World.size_alloc]
  generalize (w.alloc (.cells #[.int .i64 o, .int .i64 x2, .int .i64 x3] 55)).alloc (ocB zO) = W1 at *
  obtain ⟨y0, y1, y2, -, -, -⟩ := cells3 HX.out
  have HP := Lib.hid (computed_any A c rest o B d v W1 (HI.out.next HZ.out.below) (HN.out.next HZ.out.below))
  generalize compR rest o v = rc at *
  unfold OutPost at HP
  go_wp2_with fail
  refine HP.out.mono ?_
  rintro e4 w4 ⟨hb4, h4⟩
  have HZ4 := Lib.hid (HZ.out.next hb4)
  obtain ⟨x, k⟩ := rc
  cases x with
  | none =>
    obtain ⟨q, hq, hk, rfl⟩ := h4
    have HK := Lib.hid (And.intro hq hk)
    clear hq hk hb4 HP y0 y1 y2 HX HZ
    go_wp2_with (first | refine wo_store rfl _ _ rfl (w.heap.size + 1) zO q rfl rfl HZ4.out.block ?_)
    rw [HR.out]
    exact oc_ret Tryd.results44 rfl rfl (HZ4.out.store _).block ⟨(HZ4.out.store _).below, q, HK.out.1, HK.out.2, rfl⟩
  | some y =>
    obtain ⟨y, f⟩ := y
    obtain ⟨A4, c4, rfl, hI4⟩ := h4
    have HI4 := Lib.hid hI4
    clear hI4 hb4 HP y0 y1 y2 HX HZ
    go_wp2_with (first | refine wo_store rfl _ _ rfl (w.heap.size + 1) zO ⟨true, A4, y.length, c4, f, 0⟩ rfl rfl HZ4.out.block ?_)
    rw [HR.out]
    exact oc_ret Tryd.results44 rfl rfl (HZ4.out.store _).block ⟨(HZ4.out.store _).below, A4, c4, rfl, in_row HI4.out HZ4.out.block (by rw [ocC_size]; omega) _⟩

/-- An instruction that asks nothing, and neither calls nor returns; where it takes something, that is there. -/
theorem alone_any (A : Option Addr) (c : Nat) (rest : List Fr) (x1 x2 x3 : Int) (B : Option Addr) (d : Nat) (v : List Int) (self now : Int) (w : World) (hI : In w A c rest) (hN : NAt w B v) (h0 : 0 ≤ x1) (h23 : x1 ≤ 23) (h20 : x1 ≠ 20) (h21 : x1 ≠ 21) (hv : x1 = 2 ∨ x1 = 16 ∨ x1 = 19 → 0 < v.length) :
    Calls Tryd.prog 44 #[.slice A rest.length c, .agg #[.int .i64 x1, .int .i64 x2, .int .i64 x3], .slice B v.length d, .int .i64 self, .int .i64 now] w (OutPost (aloneR rest (x1, x2, x3) v self now) w) := by
  by_cases e0 : x1 = 0
  · subst e0; exact al_push A c rest x2 x3 B d v self now w hI hN
  by_cases e1 : x1 = 1
  · subst e1; exact al_load A c rest x2 x3 B d v self now w hI hN
  by_cases e2 : x1 = 2
  · have := hv (.inl e2)
    subst e2; exact al_store A c rest x2 x3 B d v self now w hI hN this
  by_cases e16 : x1 = 16
  · have := hv (.inr (.inl e16))
    subst e16; exact al_dup A c rest x2 x3 B d v self now w hI hN this
  by_cases e17 : x1 = 17
  · subst e17; exact al_drop A c rest x2 x3 B d v self now w hI hN
  by_cases e18 : x1 = 18
  · subst e18; exact al_jump A c rest x2 x3 B d v self now w hI hN
  by_cases e19 : x1 = 19
  · have := hv (.inr (.inr e19))
    subst e19
    by_cases hz : v.getD 0 0 = 0
    · exact al_zero A c rest x2 x3 B d v self now w hI hN this hz
    · exact al_more A c rest x2 x3 B d v self now w hI hN this hz
  by_cases e22 : x1 = 22
  · subst e22; exact al_self A c rest x2 x3 B d v self now w hI hN
  by_cases e23 : x1 = 23
  · subst e23; exact al_now A c rest x2 x3 B d v self now w hI hN
  exact al_word A c rest x1 x2 x3 B d v self now w hI hN ⟨by omega, by omega⟩
end Go.Proofs.YtjbcmedljgafkaaDoor.pgm.exe

/-
  The program's own end of a frame (typed over the code of 8d70ec2). At most a thousand frames, each of twenty-seven numbers.
-/

namespace Go.Proofs.YtjbcmedljgafkaaDoor.pgm.exe
open Go.RowKit Go.ChangeShapes
open Go.Proofs.YtjbcmedljgafkaaDoor.frames
set_option linter.unusedVariables false
set_option linter.unusedSimpArgs false

set_option maxRecDepth 100000 in
set_option maxHeartbeats 4000000 in
theorem xret_any (A : Option Addr) (c : Nat) (l : List Fr) (w : World) (hI : In w A c l) :
    Calls Tryd.prog 40 #[.slice A l.length c] w (OutPost (retR l) w) := by
  have HZ := Lib.hid (zo_new (Below.refl w.heap.size w))
  have HT := fun (W : World) (h : Below w.heap.size w W) => Lib.hid (ret_odd A c l W (hI.next h))
  obtain ⟨r, hR⟩ : ∃ r, r = retR l := ⟨_, rfl⟩
  rw [← hR]
  unfold retR at hR
  cases hq : retO l with
  | none =>
    simp only [hq] at HT hR
    have HR := Lib.hid hR
    clear hI hq hR
    go_enter Tryd.func40, Tryd.ntmps40
    go_upto_region 1 with (first | refine wo_alloc rfl rfl ?_)
    try simp only [Act.put, List.setIfInBounds_toArray, List.set_cons_zero, List.set_cons_succ]
    generalize w.alloc (ocB zO) = W1 at *
    have HT1 := HT W1 HZ.out.below
    clear HT
    go_wp2_with fail
    refine HT1.out.mono ?_
    rintro _ w2 ⟨hb2, z, rfl⟩
    have HZ2 := Lib.hid (HZ.out.next hb2)
    have HQ2 : Hid (QI w2 none none 0 0 false) := Lib.hid rfl
    have HU := Lib.hid (quiet_any none 0 0 false w2)
    clear hb2 HT1 HZ
    go_wp2_with fail
    refine HU.out.mono ?_
    rintro _ wz ⟨rfl, hbz⟩
    have HZz := Lib.hid (HZ2.out.next hbz)
    have HQz := Lib.hid (HQ2.out.next hbz)
    clear hbz HU
    go_wp2_with (first | refine wo_store rfl _ _ rfl w.heap.size zO ⟨false, none, 0, 0, noE, 0⟩ rfl rfl HZz.out.block ?_)
    rw [HR.out]
    exact oc_done (x := none) Tryd.results40 rfl rfl HZz.out HQz.out
  | some p =>
    obtain ⟨x, v⟩ := p
    simp only [hq] at HT hR
    by_cases hx : x.length = 0
    · rw [if_pos hx] at hR
      have HR := Lib.hid hR
      have q1 : decide ((x.length : Int) > 0) = false := decide_eq_false (by omega)
      have q2 : decide (0 < x.length) = false := decide_eq_false (by omega)
      clear hI hq hR hx
      go_enter Tryd.func40, Tryd.ntmps40
      go_upto_region 1 with (first | refine wo_alloc rfl rfl ?_)
      try simp only [Act.put, List.setIfInBounds_toArray, List.set_cons_zero, List.set_cons_succ]
      generalize w.alloc (ocB zO) = W1 at *
      have HT1 := HT W1 HZ.out.below
      clear HT
      go_wp2_with fail
      refine HT1.out.mono ?_
      rintro _ w2 ⟨hb2, A2, c2, rfl, hI2⟩
      have HZ2 := Lib.hid (HZ.out.next hb2)
      have HE1 := Lib.hid (heap_alloc_new w2 (efB zE))
      have HZ3 : Hid (Zo w w.heap.size zO ((w2.alloc (efB zE)).setRow w2.heap.size (efC ⟨-2, 0, 0, []⟩).toArray)) := Lib.hid (HZ2.out.next (Go.Proofs.YtjbcmedljgafkaaDoor.frames.row_below ((Below.refl _ w2).alloc (Nat.le_refl _) _) (Nat.le_refl _) _))
      have HE3 : Hid (((w2.alloc (efB zE)).setRow w2.heap.size (efC ⟨-2, 0, 0, []⟩).toArray).heap[w2.heap.size]? = some (efB ⟨-2, 0, 0, []⟩)) := Lib.hid (row_turned HE1.out (efC ⟨-2, 0, 0, []⟩).toArray)
      have HG : Hid (w.heap.size < w2.heap.size) := Lib.hid (lt_of_block HZ2.out.block)
      clear hb2 HT1 HZ hI2
      go_upto_region 5 with (first | refine we_build2 rfl rfl ?_ | refine we_alloc rfl rfl ?_ | refine we_store rfl _ _ rfl w2.heap.size zE ⟨-2, 0, 0, []⟩ rfl rfl HE1.out ?_)
      try simp only [Act.put, List.setIfInBounds_toArray, List.set_cons_zero, List.set_cons_succ]
      generalize (w2.alloc (efB zE)).setRow w2.heap.size (efC ⟨-2, 0, 0, []⟩).toArray = W3 at *
      generalize w2.heap.size = g at *
      have x3 := ef_cell HE3.out (j := 3) rfl
      have f3 := ef_free HE3.out 3
      have HE4 : Hid ((W3.setCell ⟨g, 3, none⟩ (.int .i64 v)).heap[g]? = some (efB ⟨-2, 0, 0, [v]⟩)) := Lib.hid (ef_push (k := 0) HE3.out rfl (by omega) v)
      have HZ4 : Hid (Zo w w.heap.size zO (W3.setCell ⟨g, 3, none⟩ (.int .i64 v))) := Lib.hid ⟨HZ3.out.below.setCell (p := ⟨g, 3, none⟩) (Nat.le_of_lt HG.out) _, (Below.heap_setCell _ _ _ _ (by show w.heap.size ≠ g; have := HG.out; omega)).trans HZ3.out.block, HZ3.out.far⟩
      clear HE1 HE3 HZ3 HZ2
      go_upto_region 6 with fail
      try simp only [Act.put, List.setIfInBounds_toArray, List.set_cons_zero, List.set_cons_succ]
      generalize W3.setCell ⟨g, 3, none⟩ (.int .i64 v) = W4 at *
      clear x3 f3
      go_wp2_with (first | refine we_load rfl _ rfl g rfl ⟨-2, 0, 0, [v]⟩ HE4.out ?_ | refine wo_build2 rfl _ _ rfl true ⟨-2, 0, 0, [v]⟩ rfl rfl ?_ | refine wo_store rfl _ _ rfl w.heap.size zO ⟨true, none, 0, 0, ⟨-2, 0, 0, [v]⟩, 0⟩ rfl rfl HZ4.out.block ?_)
      rw [HR.out]
      exact oc_ret Tryd.results40 rfl rfl (HZ4.out.store _).block ⟨(HZ4.out.store _).below, none, 0, rfl, in_nil _⟩
    · rw [if_neg hx] at hR
      have HR := Lib.hid hR
      have q1 : decide ((x.length : Int) > 0) = true := decide_eq_true (by omega)
      have q2 : decide (0 < x.length) = true := decide_eq_true (by omega)
      clear hI hq hR hx
      go_enter Tryd.func40, Tryd.ntmps40
      go_upto_region 1 with (first | refine wo_alloc rfl rfl ?_)
      try simp only [Act.put, List.setIfInBounds_toArray, List.set_cons_zero, List.set_cons_succ]
      generalize w.alloc (ocB zO) = W1 at *
      have HT1 := HT W1 HZ.out.below
      clear HT
      go_wp2_with fail
      refine HT1.out.mono ?_
      rintro _ w2 ⟨hb2, A2, c2, rfl, hI2⟩
      have HZ2 := Lib.hid (HZ.out.next hb2)
      have HQ2 : Hid (QI w2 (some x) A2 x.length c2 true) := Lib.hid ⟨rfl, rfl, hI2⟩
      have HU := Lib.hid (quiet_any A2 x.length c2 true w2)
      clear hb2 HT1 HZ hI2
      go_wp2_with fail
      refine HU.out.mono ?_
      rintro _ wz ⟨rfl, hbz⟩
      have HZz := Lib.hid (HZ2.out.next hbz)
      have HQz := Lib.hid (HQ2.out.next hbz)
      clear hbz HU
      go_wp2_with (first | refine wo_store rfl _ _ rfl w.heap.size zO ⟨true, A2, x.length, c2, noE, 0⟩ rfl rfl HZz.out.block ?_)
      rw [HR.out]
      exact oc_done (x := some x) Tryd.results40 rfl rfl HZz.out HQz.out
end Go.Proofs.YtjbcmedljgafkaaDoor.pgm.exe
