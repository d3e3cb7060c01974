/- Sums of the program: all. -/
import Derived.Test.YtonjgielpcofeaaQM
import Derived.Test.YtonjgielpcofeaaQN
import Derived.Test.YtonjgielpcofeaaQO
import Derived.Test.YtonjgielpcofeaaQP
import Derived.Test.YtonjgielpcofeaaQR
import Derived.Test.YtonjgielpcofeaaQS
namespace Go.Proofs.Ytonjgielpcofeaa
open Go.RowKit

theorem iAdd_any (a1 a2 a3 a4 b1 b2 b3 b4 : Int) (w : World) : Calls Try.prog 10 #[.agg #[.int .i64 a1, .int .i64 a2, .int .i64 a3, .int .i64 a4], .agg #[.int .i64 b1, .int .i64 b2, .int .i64 b3, .int .i64 b4]] w fun e w' => e = .returned (.tuple #[.agg #[.int .i64 (aR a1 a2 a3 a4 b1 b2 b3 b4).1, .int .i64 (aR a1 a2 a3 a4 b1 b2 b3 b4).2.1, .int .i64 (aR a1 a2 a3 a4 b1 b2 b3 b4).2.2.1, .int .i64 (aR a1 a2 a3 a4 b1 b2 b3 b4).2.2.2.1], .bool (aR a1 a2 a3 a4 b1 b2 b3 b4).2.2.2.2]) ∧ Below w.heap.size w w' := by
  by_cases ha : Qok a1 a2 a3 a4
  · by_cases hb : Qok b1 b2 b3 b4
    · by_cases h3 : a3 = b3
      · subst h3
        by_cases h4 : a4 = b4
        · subst h4
          by_cases h1 : a1 = 0
          · subst h1
            by_cases h2 : b1 = 0
            · subst h2
              obtain rfl : a2 = 0 := by unfold Qok at ha; omega
              obtain rfl : b2 = 0 := by unfold Qok at hb; omega
              exact iAdd_zz a3 a4 ha hb w
            · exact iAdd_za a2 a3 a4 b1 b2 ha hb h2 w
          · by_cases h2 : b1 = 0
            · subst h2
              exact iAdd_zb a1 a2 a3 a4 b2 ha hb h1 w
            · by_cases h5 : a2 < b2
              · by_cases h6 : 9 < b2 - a2
                · exact iAdd_far2 a1 a2 a3 a4 b1 b2 ha hb h1 h2 h5 h6 w
                · exact iAdd_lt a1 a2 a3 a4 b1 b2 ha hb h1 h2 h5 h6 w
              · by_cases h7 : a2 = b2
                · subst h7
                  exact iAdd_eq a1 a2 a3 a4 b1 ha hb h1 h2 w
                · by_cases h6 : 9 < a2 - b2
                  · exact iAdd_far1 a1 a2 a3 a4 b1 b2 ha hb h1 h2 (by omega) h6 w
                  · exact iAdd_gt a1 a2 a3 a4 b1 b2 ha hb h1 h2 (by omega) h6 w
        · exact iAdd_n4 a1 a2 a3 a4 b1 b2 b4 ha hb h4 w
      · exact iAdd_n3 a1 a2 a3 a4 b1 b2 b3 b4 ha hb h3 w
    · exact iAdd_nb a1 a2 a3 a4 b1 b2 b3 b4 ha hb w
  · exact iAdd_na a1 a2 a3 a4 b1 b2 b3 b4 ha w

end Go.Proofs.Ytonjgielpcofeaa
