/-
  The contracts of package codes, and those of package bitrow that its laws call, in the form in which the laws' walks ask for them.
-/
import Derived.Test.YtahanllbaclokaaCodeRead
import Derived.Test.YtahanllbaclokaaCodeNew
import Derived.Test.YtahanllbaclokaaCodeRef4
import Derived.Test.YtahanllbaclokaaBitText
import Derived.Test.YtahanllbaclokaaSame
